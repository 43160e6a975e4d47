/-
  A row of ends that a call owns: how it is laid, and how one end in it is written.
  What it means that an engine lies in memory, and that it lies apart from a block that is written.
  sort.Search over whatever closure, of what is first false and then true.
  find, below, lastBelow and ownVersions of the program: the place of a key in chains that rise, how many versions are ahead of a deed, the last one of them, and a copy of versions.
-/
import Derived.Test.YtlhaeeenkgkdaaaGreatDoorRefDo
import Derived.Test.YtlhaeeenkgkdaaaGreatDoorOpenDeeds
import Derived.Test.YtlhaeeenkgkdaaaGreatDoorChainsIn
import Derived.Test.YtlhaeeenkgkdaaaGreatDoorDeedSame
import Derived.Test.YtlhaeeenkgkdaaaGreatDoorDeedTurn
import Derived.WalkSpells
import Derived.WalkLawsBesides
import Derived.Below
import Derived.LoopTactic
import Derived.Outline
import Derived.Test.YtlhaeeenkgkdaaaGreatDoorAround
import Derived.Test.YtlhaeeenkgkdaaaGreatDoorChainFind
import Derived.Test.YtlhaeeenkgkdaaaGreatDoorRefPut
namespace Go.Proofs.YtlhaeeenkgkdaaaGreatDoor
open Go.RowKit

theorem doneInfo : (Tryz.prog.info? 83).map (fun i => (i.zero, i.size, i.bytes)) = some (some (.agg #[.bool false, .int .i64 0, .int .i64 0, .int .i64 0, .int .i64 0]), 5, 40) := by kernel_rfl
theorem endCells_set : ∀ (E : List End3) (j : Nat) (e : End3), j < E.length →
   (((((endCells E).set (j * 5) (.bool e.1)).set (j * 5 + 1) (.int .i64 (e.2 0))).set (j * 5 + 2) (.int .i64 (e.2 1))).set (j * 5 + 3) (.int .i64 (e.2 2))).set (j * 5 + 4) (.int .i64 (e.2 3)) = endCells (E.set j e)
 | [], j, _, h => absurd h (Nat.not_lt_zero _)
 | x :: E, 0, e, _ => by simp [endCells, endCell]
 | x :: E, j + 1, e, h => by
   have ih := endCells_set E j e (by simpa using h)
   rw [List.set_cons_succ, endCells, endCells, ← ih]
   rw [show (j + 1) * 5 = j * 5 + 1 + 1 + 1 + 1 + 1 from by omega]
   simp [endCell, Nat.add_right_comm _ 5]
def fiveAt (w : World) (g o : Nat) (f : Bool) (x0 x1 x2 x3 : Int) : World :=
 ((((w.setCell ⟨g, o, none⟩ (.bool f)).setCell ⟨g, o + 1, none⟩ (.int .i64 x0)).setCell ⟨g, o + 2, none⟩ (.int .i64 x1)).setCell ⟨g, o + 3, none⟩ (.int .i64 x2)).setCell ⟨g, o + 4, none⟩ (.int .i64 x3)
theorem fiveAt_below {w w0 : World} {g B : Nat} (o : Nat) (f : Bool) (x0 x1 x2 x3 : Int) (hB : B ≤ g) (h : Below B w0 w) : Below B w0 (fiveAt w g o f x0 x1 x2 x3) :=
 ((((h.setCell (p := ⟨g, o, none⟩) hB _).setCell (p := ⟨g, o + 1, none⟩) hB _).setCell (p := ⟨g, o + 2, none⟩) hB _).setCell (p := ⟨g, o + 3, none⟩) hB _).setCell (p := ⟨g, o + 4, none⟩) hB _
end Go.Proofs.YtlhaeeenkgkdaaaGreatDoor

namespace Go.Proofs.YtlhaeeenkgkdaaaGreatDoor
open Go.RowKit

def Box (w : World) (b : Nat) (cs : Array Value) (t : TypeId) : Prop := w.heap[b]? = some (.cells cs t)
theorem Box.new (w : World) (cs : Array Value) (t : TypeId) : Box (w.alloc (.cells cs t)) w.heap.size cs t := by
 unfold Box
 show (w.heap.push (.cells cs t))[w.heap.size]? = _
 simp
theorem Box.lt {w : World} {b : Nat} {cs : Array Value} {t : TypeId} (h : Box w b cs t) : b < w.heap.size := (Array.getElem?_eq_some_iff.1 h).1
theorem Box.below {w w' : World} {b : Nat} {cs : Array Value} {t : TypeId} (h : Box w b cs t) (hb : Below w.heap.size w w') : Box w' b cs t := (hb.block b h.lt).trans h
theorem Box.drew {w : World} {b : Nat} {cs : Array Value} {t : TypeId} (h : Box w b cs t) : Box w.drew b cs t := h
theorem Box.cell {w : World} {b : Nat} {cs : Array Value} {t : TypeId} (h : Box w b cs t) (j : Nat) (v : Value) (hv : cs[j]? = some v) : w.cell? ⟨b, j, none⟩ = some v := by
 unfold Box at h
 simp [World.cell?, h, hv]
theorem Box.free {w : World} {b : Nat} {cs : Array Value} {t : TypeId} (h : Box w b cs t) (j : Nat) : w.frozen? ⟨b, j, none⟩ = false := by
 unfold Box at h
 simp [World.frozen?, h]
theorem Box.set {w : World} {b : Nat} {cs : Array Value} {t : TypeId} (h : Box w b cs t) (j : Nat) (v : Value) : Box (w.setCell ⟨b, j, none⟩ v) b (cs.setIfInBounds j v) t := by
 unfold Box at h ⊢
 simp [World.setCell, Array.getElem?_modify, h]
theorem Box.far {w : World} {b : Nat} {cs : Array Value} {t : TypeId} (h : Box w b cs t) (p : Addr) (hp : b ≠ p.block) (v : Value) : Box (w.setCell p v) b cs t := by
 unfold Box at h ⊢
 rw [Below.heap_setCell _ _ _ _ hp]; exact h
theorem Box.grown {w w' : World} {b : Nat} {cs : Array Value} {t : TypeId} {row : Option Nat} (h : Box w b cs t) (hg : w.grownBy w' row) (hne : some b ≠ row) : Box w' b cs t := (hg.block b h.lt hne).trans h

structure Off (b : Nat) (w w' : World) : Prop where
 size : w.heap.size ≤ w'.heap.size
 block : ∀ k, k < w.heap.size → k ≠ b → w'.heap[k]? = w.heap[k]?
theorem Off.set (w : World) (b j : Nat) (v : Value) : Off b w (w.setCell ⟨b, j, none⟩ v) := ⟨by simp, fun k _ hne => Below.heap_setCell _ _ _ _ hne⟩
theorem Off.refl (b : Nat) (w : World) : Off b w w := ⟨Nat.le_refl _, fun _ _ _ => rfl⟩
theorem Off.trans {b : Nat} {w w1 w2 : World} (h : Off b w w1) (k : Off b w1 w2) : Off b w w2 := ⟨Nat.le_trans h.size k.size, fun i hi hne => (k.block i (Nat.lt_of_lt_of_le hi h.size) hne).trans (h.block i hi hne)⟩
theorem Off.below {b : Nat} {w w' : World} (h : Below w.heap.size w w') : Off b w w' := ⟨h.size, fun k hk _ => h.block k hk⟩
theorem Off.grown {g : Nat} {w w' : World} (h : w.grownBy w' (some g)) : Off g w w' := ⟨h.size, fun k hk hne => h.block k hk (by simpa using hne)⟩
theorem Off.cell {b : Nat} {w w' : World} (h : Off b w w') {k o : Nat} {v : Value} (hne : k ≠ b) (hc : w.cell? ⟨k, o, none⟩ = some v) : w'.cell? ⟨k, o, none⟩ = some v := by
 have hk : k < w.heap.size := by simpa using World.block_lt_of_cell? _ _ hc
 rw [World.cell?_of_block (w := w) (a := ⟨k, o, none⟩) (h.block k hk hne)]
 exact hc
theorem Kind.off {b : Nat} {w w' : World} {t : TypeId} {base : Option Addr} (h : Kind w t base) (ho : Off b w w') (hne : ∀ a, base = some a → a.block ≠ b) : Kind w' t base := fun a e => by
 obtain ⟨cur, z, hc⟩ := h a e
 exact ⟨cur, z, (ho.block _ (Array.getElem?_eq_some_iff.1 hc).1 (hne a e)).trans hc⟩
theorem Lies.off {b : Nat} {w w' : World} {base : Option Addr} {sz n c : Nat} {vs : List Value} (h : Lies w sz base n c vs) (ho : Off b w w') (hne : n = 0 ∨ ∀ a, base = some a → a.block ≠ b) : Lies w' sz base n c vs := by
 refine ⟨h.len, h.hdr, ?_⟩
 rcases h.run with h0 | ⟨bl, o, e, hr⟩
 · exact .inl h0
 · rcases hne with h0 | hne
   · exact .inl h0
   · exact .inr ⟨bl, o, e, fun j u hu => ho.cell (hne _ e) (hr j u hu)⟩
theorem Texts.off {b : Nat} {w w' : World} {base : Option Addr} {n c : Nat} {l : List ByteArray} (h : Texts w base n c l) (ha : NoText w b) (ho : Off b w w') : Texts w' base n c l := by
 refine Lies.off h ho ?_
 by_cases h0 : n = 0
 · exact .inl h0
 · refine .inr fun a e hab => ?_
   have hl : 0 < l.length := by have := Texts.count h; omega
   rcases h.run with h1 | ⟨bl, o, e1, hr⟩
   · exact h0 h1
   · rw [e1] at e; cases e
     exact ha _ _ (by rw [← hab]; exact hr 0 _ (strs_at hl))
theorem Codes.off {b : Nat} {w w' : World} {base : Option Addr} {n c : Nat} {l : List Ins} (h : Codes w base n c l) (ha : NoText w b) (ho : Off b w w') : Codes w' base n c l := by
 refine Lies.off h ho ?_
 by_cases h0 : n = 0
 · exact .inl h0
 · refine .inr fun a e hab => ?_
   have hl : 0 < l.length := by have := Codes.count h; omega
   rcases h.run with h1 | ⟨bl, o, e1, hr⟩
   · exact h0 h1
   · rw [e1] at e; cases e
     exact ha _ _ (by rw [← hab]; exact (Codes.cells hr hl).2.2.2.2)
theorem DeedIn.off {b : Nat} {w w' : World} {rb wb cb : Option Addr} {rn rc wn wc cn cc : Nat} {R W : List ByteArray} {C : List Ins} (h : DeedIn w rb rn rc wb wn wc cb cn cc R W C) (ha : NoText w b) (ho : Off b w w') : DeedIn w' rb rn rc wb wn wc cb cn cc R W C :=
 ⟨Texts.off h.tr ha ho, Texts.off h.tw ha ho, Codes.off h.cd ha ho⟩
structure Alien (w : World) (b : Nat) : Prop where
 text : NoText w b
 two : ∀ o p q, w.cell? ⟨b, o, none⟩ = some (.bool p) → w.cell? ⟨b, o + 1, none⟩ ≠ some (.bool q)
theorem Vers.off {b : Nat} {w w' : World} {base : Option Addr} {n c : Nat} {l : List Ver} (h : Vers w base n c l) (ha : Alien w b) (ho : Off b w w') : Vers w' base n c l := by
 refine Lies.off h ho ?_
 by_cases h0 : n = 0
 · exact .inl h0
 · refine .inr fun a e hab => ?_
   have hl : 0 < l.length := by have := Vers.count h; omega
   rcases h.run with h1 | ⟨bl, o, e1, hr⟩
   · exact h0 h1
   · rw [e1] at e; cases e
     obtain ⟨_, k1, k2, _⟩ := Vers.cells hr hl
     simp only at hab
     subst hab
     exact ha.two _ _ _ k1 k2
theorem ChainHere.off {b : Nat} {w w' : World} {bl o : Nat} {x : Chn} (h : ChainHere w bl o x) (ha : Alien w b) (ho : Off b w w') : ChainHere w' bl o x := by
 obtain ⟨vb, vn, vc, h0, h1, h2, h3⟩ := h
 have hne : bl ≠ b := fun e => ha.text _ _ (by rw [← e]; exact h0)
 exact ⟨vb, vn, vc, ho.cell hne h0, ho.cell hne h1, Vers.off h2 ha ho, h3⟩
theorem ChainsIn.off {b : Nat} {w w' : World} {base : Option Addr} {n c : Nat} {L : List Chn} (h : ChainsIn w base n c L) (ha : Alien w b) (ho : Off b w w') : ChainsIn w' base n c L := by
 refine ⟨h.len, h.hdr, ?_⟩
 rcases h.run with h0 | ⟨bl, o, e, hr⟩
 · exact .inl h0
 · exact .inr ⟨bl, o, e, fun i hi => (hr i hi).off ha ho⟩
theorem DeedsIn.off {b : Nat} {w w' : World} {base : Option Addr} {n c : Nat} {D : List Deed3} (h : DeedsIn w base n c D) (hne : ∀ a, base = some a → a.block ≠ b) (ha : NoText w b) (ho : Off b w w') : DeedsIn w' base n c D := by
 refine ⟨h.len, h.hdr, ?_⟩
 rcases h.run with h0 | ⟨bl, o, e, hr⟩
 · exact .inl h0
 · refine .inr ⟨bl, o, e, fun i hi => ?_⟩
   obtain ⟨rb, rn, rc, wb, wn, wc, cb, cn, cc, k0, k1, k2, k3, k4⟩ := hr i hi
   have hn := hne _ e
   exact ⟨rb, rn, rc, wb, wn, wc, cb, cn, cc, ho.cell hn k0, ho.cell hn k1, ho.cell hn k2, k3.off ha ho, k4⟩

def intsC (l : List Int) : List Value := l.map (Value.int .i64)
theorem intsC_length (l : List Int) : (intsC l).length = l.length := by simp [intsC]
theorem intsC_at {l : List Int} {i : Nat} (h : i < l.length) : (intsC l)[i]? = some (.int .i64 (l.getD i 0)) := by simp [intsC, List.getD, h]
theorem intsC_one (l : List Int) : ∀ u ∈ intsC l, u.oneCell' = true := fun u hu => by
 simp [intsC] at hu; obtain ⟨x, _, rfl⟩ := hu; rfl
theorem intsC_append (l m : List Int) : intsC (l ++ m) = intsC l ++ intsC m := by simp [intsC]
abbrev Ints (w : World) (base : Option Addr) (n c : Nat) (l : List Int) : Prop := Lies w 1 base n c (intsC l)
theorem Ints.count {w : World} {base : Option Addr} {n c : Nat} {l : List Int} (h : Ints w base n c l) : n = l.length := by have := h.len; rw [intsC_length] at this; omega
theorem intInfo : (Tryz.prog.info? 3).map (fun i => (i.zero, i.size, i.bytes)) = some (some (.int .i64 0), 1, 8) := by kernel_rfl

abbrev Sl := Option Addr × Nat × Nat
abbrev DSlot := Sl × Sl × Sl
def dslotC (s : DSlot) : List Value := [.slice s.1.1 s.1.2.1 s.1.2.2, .slice s.2.1.1 s.2.1.2.1 s.2.1.2.2, .slice s.2.2.1 s.2.2.2.1 s.2.2.2.2]
theorem dslotC_length (s : DSlot) : (dslotC s).length = 3 := rfl
theorem dslotC_one (s : DSlot) : ∀ u ∈ dslotC s, u.oneCell' = true := fun u hu => by
 simp [dslotC] at hu; rcases hu with rfl | rfl | rfl <;> rfl
def DSlotIs (w : World) (s : DSlot) (d : Deed3) : Prop := DeedIn w s.1.1 s.1.2.1 s.1.2.2 s.2.1.1 s.2.1.2.1 s.2.1.2.2 s.2.2.1 s.2.2.2.1 s.2.2.2.2 d.1 d.2.1 d.2.2 ∧ SmallT d.1 ∧ SmallT d.2.1
theorem DSlotIs.below {w w' : World} {s : DSlot} {d : Deed3} (h : DSlotIs w s d) (hb : Below w.heap.size w w') : DSlotIs w' s d := ⟨h.1.below hb, h.2⟩
def DSlotsAre (w : World) (T : List DSlot) (D : List Deed3) : Prop := T.length = D.length ∧ ∀ i, i < D.length → DSlotIs w (T.getD i default) (D.getD i default)
theorem DSlotsAre.nil (w : World) : DSlotsAre w [] [] := ⟨rfl, fun _ h => absurd h (Nat.not_lt_zero _)⟩
theorem DSlotsAre.below {w w' : World} {T : List DSlot} {D : List Deed3} (h : DSlotsAre w T D) (hb : Below w.heap.size w w') : DSlotsAre w' T D := ⟨h.1, fun i hi => (h.2 i hi).below hb⟩
theorem DSlotsAre.snoc {w : World} {T : List DSlot} {D : List Deed3} {s : DSlot} {d : Deed3} (h : DSlotsAre w T D) (hs : DSlotIs w s d) : DSlotsAre w (T ++ [s]) (D ++ [d]) := by
 refine ⟨by simp [h.1], fun i hi => ?_⟩
 by_cases e : i < D.length
 · have e' : i < T.length := by rw [h.1]; exact e
   have := h.2 i e
   simpa [List.getD, List.getElem?_append_left e, List.getElem?_append_left e'] using this
 · have hi' : i = D.length := by simp at hi; omega
   subst hi'
   have e1 : (T ++ [s]).getD D.length default = s := by rw [← h.1]; simp [List.getD]
   have e2 : (D ++ [d]).getD D.length default = d := by simp [List.getD]
   rw [e1, e2]; exact hs
theorem deeds_of_slots {w : World} {base : Option Addr} {n c : Nat} {T : List DSlot} {D : List Deed3} (h : Lies w 3 base n c (flat dslotC T)) (hs : DSlotsAre w T D) : DeedsIn w base n c D := by
 have hn : n = T.length := Lies.count dslotC_length (by decide) h
 refine ⟨by rw [hn, hs.1], h.hdr, ?_⟩
 rcases h.run with h0 | ⟨b, o, e, hr⟩
 · exact .inl h0
 · refine .inr ⟨b, o, e, fun i hi => ?_⟩
   have hiT : i < T.length := by omega
   obtain ⟨e1, e2⟩ := hs.2 i (by rw [← hs.1]; exact hiT)
   exact ⟨_, _, _, _, _, _, _, _, _, hr.at_ dslotC_length hiT (j := 0) rfl, hr.at_ dslotC_length hiT (j := 1) rfl, hr.at_ dslotC_length hiT (j := 2) rfl, e1, e2⟩
theorem DeedsIn.slots {w : World} {base : Option Addr} {n c : Nat} {D : List Deed3} (h : DeedsIn w base n c D) : ∃ T, Lies w 3 base n c (flat dslotC T) ∧ DSlotsAre w T D := by
 rcases h.run with h0 | ⟨b, o, e, hr⟩
 · have hD : D = [] := List.eq_nil_of_length_eq_zero (by rw [← h.len]; exact h0)
   subst hD
   exact ⟨[], ⟨by simp [flat, h0], h.hdr, .inl h0⟩, DSlotsAre.nil _⟩
 · have hx : ∀ i, ∃ s : DSlot, i < n → w.cell? ⟨b, o + i * 3, none⟩ = some (.slice s.1.1 s.1.2.1 s.1.2.2) ∧ w.cell? ⟨b, o + i * 3 + 1, none⟩ = some (.slice s.2.1.1 s.2.1.2.1 s.2.1.2.2) ∧ w.cell? ⟨b, o + i * 3 + 2, none⟩ = some (.slice s.2.2.1 s.2.2.2.1 s.2.2.2.2) ∧ DSlotIs w s (D.getD i default) := fun i => by
     by_cases hi : i < n
     · obtain ⟨rb, rn, rc, wb, wn, wc, cb, cn, cc, k0, k1, k2, k3, k4⟩ := hr i hi
       exact ⟨((rb, rn, rc), (wb, wn, wc), (cb, cn, cc)), fun _ => ⟨k0, k1, k2, k3, k4⟩⟩
     · exact ⟨default, fun h => absurd h hi⟩
   obtain ⟨f, hf⟩ := Classical.axiomOfChoice hx
   have hg : ∀ i, i < n → ((List.range n).map f).getD i default = f i := fun i hi => by simp [List.getD, hi]
   refine ⟨(List.range n).map f, ⟨by rw [flat_length dslotC_length]; simp, h.hdr, .inr ⟨b, o, e, fun j u hu => ?_⟩⟩, by simp [h.len], fun i hi => ?_⟩
   · have hj : j < n * 3 := by
       have := (List.getElem?_eq_some_iff.1 hu).1
       rw [flat_length dslotC_length] at this
       simpa using this
     have hi : j / 3 < n := by omega
     have hl : j / 3 < ((List.range n).map f).length := by simpa using hi
     have key : ∀ t v, (dslotC (f (j / 3)))[t]? = some v → (flat dslotC ((List.range n).map f))[j / 3 * 3 + t]? = some v := fun t v hv => flat_at dslotC_length _ _ hl t v (by rw [hg _ hi]; exact hv)
     obtain ⟨k0, k1, k2, _⟩ := hf (j / 3) hi
     have h3 : j % 3 = 0 ∨ j % 3 = 1 ∨ j % 3 = 2 := by omega
     rcases h3 with h3 | h3 | h3
     · have ej : j = j / 3 * 3 + 0 := by omega
       have := key 0 _ rfl
       rw [← ej, hu] at this
       simp only [Option.some.injEq] at this
       rw [this, show o + j = o + j / 3 * 3 from by omega]; exact k0
     · have ej : j = j / 3 * 3 + 1 := by omega
       have := key 1 _ rfl
       rw [← ej, hu] at this
       simp only [Option.some.injEq] at this
       rw [this, show o + j = o + j / 3 * 3 + 1 from by omega]; exact k1
     · have ej : j = j / 3 * 3 + 2 := by omega
       have := key 2 _ rfl
       rw [← ej, hu] at this
       simp only [Option.some.injEq] at this
       rw [this, show o + j = o + j / 3 * 3 + 2 from by omega]; exact k2
   · rw [hg i (by rw [h.len]; exact hi)]
     exact (hf i (by rw [h.len]; exact hi)).2.2.2
theorem deedInfo : (Tryz.prog.info? 44).map (fun i => (i.zero, i.size, i.bytes)) = some (some (.agg #[.slice none 0 0, .slice none 0 0, .slice none 0 0]), 3, 72) := by kernel_rfl

structure EngLies (w : World) (cb : Option Addr) (cn cc : Nat) (db : Option Addr) (dn dc : Nat) (sb : Option Addr) (sn sc : Nat) (eb : Option Addr) (en ec : Nat) (e : Eng) : Prop where
 ch : ChainsIn w cb cn cc e.chains
 de : DeedsIn w db dn dc e.deeds
 st : Ints w sb sn sc e.state
 en : Ends w eb en ec e.ends
 dk : Kind w 44 db
 sk : Kind w 3 sb
 ek : Kind w 83 eb
theorem EngLies.below {w w' : World} {cb db sb eb : Option Addr} {cn cc dn dc sn sc en ec : Nat} {e : Eng} (h : EngLies w cb cn cc db dn dc sb sn sc eb en ec e) (hb : Below w.heap.size w w') : EngLies w' cb cn cc db dn dc sb sn sc eb en ec e :=
 ⟨h.ch.below hb, h.de.below hb, h.st.below (by decide) hb, h.en.below (by decide) hb, h.dk.below hb, h.sk.below hb, h.ek.below hb⟩
theorem kind_ne {w : World} {b : Nat} {cs : Array Value} {t t' : TypeId} {base : Option Addr} (hb : Box w b cs t) (hk : Kind w t' base) (hne : t' ≠ t) : ∀ a, base = some a → a.block ≠ b := fun a e hab => by
 obtain ⟨cur, z, hc⟩ := hk a e
 unfold Box at hb
 rw [hab, hb] at hc
 simp at hc
 exact hne hc.2.1.symm
theorem EngLies.off {w w' : World} {b : Nat} {cs : Array Value} {t : TypeId} {cb db sb eb : Option Addr} {cn cc dn dc sn sc en ec : Nat} {e : Eng} (h : EngLies w cb cn cc db dn dc sb sn sc eb en ec e)
   (hb : Box w b cs t) (ha : Alien w b) (h1 : 44 ≠ t) (h2 : 3 ≠ t) (h3 : 83 ≠ t) (ho : Off b w w') : EngLies w' cb cn cc db dn dc sb sn sc eb en ec e :=
 ⟨h.ch.off ha ho, h.de.off (kind_ne hb h.dk h1) ha.text ho, Lies.off h.st ho (.inr (kind_ne hb h.sk h2)), Lies.off h.en ho (.inr (kind_ne hb h.ek h3)), h.dk.off ho (kind_ne hb h.dk h1), h.sk.off ho (kind_ne hb h.sk h2), h.ek.off ho (kind_ne hb h.ek h3)⟩
abbrev engA (cb : Option Addr) (cn cc : Nat) (db : Option Addr) (dn dc : Nat) (sb : Option Addr) (sn sc : Nat) (eb : Option Addr) (en ec : Nat) (base : Int) : Array Value := #[.slice cb cn cc, .slice db dn dc, .slice sb sn sc, .slice eb en ec, .int .i64 base]
def EngIn (w : World) (v : Value) (e : Eng) : Prop := ∃ cb cn cc db dn dc sb sn sc eb en ec, v = .agg #[.slice cb cn cc, .slice db dn dc, .slice sb sn sc, .slice eb en ec, .int .i64 e.base] ∧ EngLies w cb cn cc db dn dc sb sn sc eb en ec e
theorem EngIn.below {w w' : World} {v : Value} {e : Eng} (h : EngIn w v e) (hb : Below w.heap.size w w') : EngIn w' v e := by
 obtain ⟨cb, cn, cc, db, dn, dc, sb, sn, sc, eb, en, ec, rfl, hl⟩ := h
 exact ⟨cb, cn, cc, db, dn, dc, sb, sn, sc, eb, en, ec, rfl, hl.below hb⟩
theorem eng_alien {w : World} {b : Nat} {t : TypeId} {cb db sb eb : Option Addr} {cn cc dn dc sn sc en ec : Nat} {base : Int} (h : Box w b (engA cb cn cc db dn dc sb sn sc eb en ec base) t) : Alien w b := by
 have key : ∀ o v, w.cell? ⟨b, o, none⟩ = some v → (∃ x y z, v = .slice x y z) ∨ ∃ n, v = .int .i64 n := fun o v hv => by
   unfold Box at h
   simp only [World.cell?, h, Option.isSome_none, Bool.false_eq_true, if_false] at hv
   have hm := List.mem_of_getElem? (l := (engA cb cn cc db dn dc sb sn sc eb en ec base).toList) (i := o) (by simpa using hv)
   simp at hm
   rcases hm with rfl | rfl | rfl | rfl | rfl
   · exact .inl ⟨_, _, _, rfl⟩
   · exact .inl ⟨_, _, _, rfl⟩
   · exact .inl ⟨_, _, _, rfl⟩
   · exact .inl ⟨_, _, _, rfl⟩
   · exact .inr ⟨_, rfl⟩
 refine ⟨fun o s e => ?_, fun o p q e => ?_⟩
 · rcases key o _ e with ⟨_, _, _, h⟩ | ⟨_, h⟩ <;> cases h
 · rcases key o _ e with ⟨_, _, _, h⟩ | ⟨_, h⟩ <;> cases h
theorem EngLies.put {w w' : World} {cb' db' sb' eb' : Option Addr} {b cn' cc' dn' dc' sn' sc' en' ec' : Nat} {base : Int} {cb db sb eb : Option Addr} {cn cc dn dc sn sc en ec : Nat} {e : Eng} (h : EngLies w cb cn cc db dn dc sb sn sc eb en ec e)
   (hb : Box w b (engA cb' cn' cc' db' dn' dc' sb' sn' sc' eb' en' ec' base) 33) (ho : Off b w w') : EngLies w' cb cn cc db dn dc sb sn sc eb en ec e :=
 h.off hb (eng_alien hb) (by decide) (by decide) (by decide) ho
end Go.Proofs.YtlhaeeenkgkdaaaGreatDoor

namespace Go.Proofs.YtlhaeeenkgkdaaaGreatDoor
open Go.RowKit

set_option maxHeartbeats 1000000 in
theorem searchF_calls (F : Nat) (caps : Array Value) (n : Nat) (p : Nat → Bool) (w : World) (hcf : Entered F) (hn : n < 4611686018427387904)
   (hf : ∀ m i, i < n → Calls Tryz.prog F (#[.int .i64 i] ++ caps) (w.drewN m) fun e w' => e = .returned (.bool (p i)) ∧ ∃ q, w' = w.drewN q)
   (hmono : ∀ a b, a ≤ b → b < n → p a = true → p b = true) :
   Calls Tryz.prog 122 #[.int .i64 n, .func (.func F) #[] caps] w fun e w' =>
     ∃ m : Nat, e = .returned (.int .i64 m) ∧ m ≤ n ∧ (∀ t, t < m → p t = false) ∧ (∀ t, m ≤ t → t < n → p t = true) ∧ ∃ q, w' = w.drewN q := by
 have HF := hid hf
 have HM := hid hmono
 unfold Entered at hcf
 clear hf hmono
 go_enter Tryz.func122, Tryz.ntmps122
 go_wp2
 go_loopw [5, 6] (fun i j wr => ∃ lo hi q : Nat, i = .int .i64 lo ∧ j = .int .i64 hi ∧ lo ≤ hi ∧ hi ≤ n ∧ wr = w.drewN q ∧
   Hid ((∀ t, t < lo → p t = false) ∧ (∀ t, hi ≤ t → t < n → p t = true))) (fun i j _ => (intOf j).toNat - (intOf i).toNat)
 case atStart => exact ⟨0, n, 0, rfl, rfl, Nat.zero_le _, Nat.le_refl _, rfl, ⟨fun t ht => absurd ht (Nat.not_lt_zero _), fun t h1 h2 => by omega⟩⟩
 case round =>
   obtain ⟨lo, hi, q, rfl, rfl, hlh, hin, rfl, I⟩ := hrel
   by_cases hlt : lo < hi
   · have hc := HF.out q ((lo + hi) / 2) (by omega)
     rw [show (((lo + hi) / 2 : Nat) : Int) = ((lo : Int) + (hi : Int)) / 2 by omega] at hc
     cases hp : p ((lo + hi) / 2) <;> rw [hp] at hc
     · have HP : Hid (p ((lo + hi) / 2) = false) := hp
       clear hp
       have HC := hid hc
       clear hc
       go_wp2_with fail
       refine HC.out.mono ?_
       rintro e w' ⟨rfl, nq, rfl⟩
       go_wp2
       go_roundw
       case measure => simp [intOf]; omega
       case rel =>
         refine ⟨(lo + hi) / 2 + 1, hi, nq, by rw [show ((lo : Int) + (hi : Int)) / 2 + 1 = (((lo + hi) / 2 + 1 : Nat) : Int) by omega], rfl, by omega, hin, rfl, ⟨fun t ht => ?_, I.out.2⟩⟩
         cases h : p t with
         | false => rfl
         | true => have := HM.out t ((lo + hi) / 2) (by omega) (by omega) h; rw [HP.out] at this; cases this
     · have HP : Hid (p ((lo + hi) / 2) = true) := hp
       clear hp
       have HC := hid hc
       clear hc
       go_wp2_with fail
       refine HC.out.mono ?_
       rintro e w' ⟨rfl, nq, rfl⟩
       go_wp2
       go_roundw
       case measure => simp [intOf]; omega
       case rel => exact ⟨lo, (lo + hi) / 2, nq, rfl, by rw [show ((lo : Int) + (hi : Int)) / 2 = (((lo + hi) / 2 : Nat) : Int) by omega], by omega, by omega, rfl, ⟨I.out.1, fun t ht htn => HM.out ((lo + hi) / 2) t ht htn HP.out⟩⟩
   · obtain rfl : hi = lo := by omega
     go_wp2
     go_ret
     exact ⟨hi, rfl, hin, I.out.1, I.out.2, q, rfl⟩
end Go.Proofs.YtlhaeeenkgkdaaaGreatDoor

namespace Go.Proofs.YtlhaeeenkgkdaaaGreatDoor
open Go.RowKit

theorem versClo_in : Entered 126 := fun _ _ => by kernel_rfl
theorem keyClo_in : Entered 123 := fun _ _ => by kernel_rfl

set_option maxHeartbeats 400000 in
theorem versClo_calls (b o n c bx bk i : Nat) (y by_ : Int) (W : World) (hi : i < n) (ha : W.cell? ⟨bx, 0, none⟩ = some (.slice (some ⟨b, o, none⟩) n c))
   (hk : W.cell? ⟨bk, 0, none⟩ = some (.int .i64 by_)) (hc : W.cell? ⟨b, o + i * 4, none⟩ = some (.int .i64 y)) :
   Calls Tryz.prog 126 #[.int .i64 i, .pointer (some ⟨bx, 0, none⟩), .pointer (some ⟨bk, 0, none⟩)] W fun e w' => e = .returned (.bool (decide (by_ ≤ y))) ∧ ∃ q, w' = W.drewN q := by
 have hiz : (i : Int) < (n : Int) := by omega
 go_enter Tryz.func126, Tryz.ntmps126
 go_wp2
 go_quiet (fail)
 go_wp2
 go_ret
 exact ⟨rfl, _, rfl⟩

set_option maxHeartbeats 400000 in
theorem keyClo_calls (b o n c bx bk i : Nat) (ki k : ByteArray) (W : World) (hi : i < n) (ha : W.cell? ⟨bx, 0, none⟩ = some (.slice (some ⟨b, o, none⟩) n c))
   (hk : W.cell? ⟨bk, 0, none⟩ = some (.string k)) (hc : W.cell? ⟨b, o + i * 2, none⟩ = some (.string ki)) :
   Calls Tryz.prog 123 #[.int .i64 i, .pointer (some ⟨bx, 0, none⟩), .pointer (some ⟨bk, 0, none⟩)] W fun e w' => e = .returned (.bool (!less ki k)) ∧ ∃ q, w' = W.drewN q := by
 have hiz : (i : Int) < (n : Int) := by omega
 go_enter Tryz.func123, Tryz.ntmps123
 go_wp2
 go_quiet (fail)
 go_wp2
 go_ret
 exact ⟨rfl, _, rfl⟩

theorem two_boxes (w : World) (x y : Value) (t u : TypeId) : Below w.heap.size w ((w.alloc (.cells #[x] t)).alloc (.cells #[y] u)) ∧ ((w.alloc (.cells #[x] t)).alloc (.cells #[y] u)).cell? ⟨w.heap.size, 0, none⟩ = some x ∧ ((w.alloc (.cells #[x] t)).alloc (.cells #[y] u)).cell? ⟨w.heap.size + 1, 0, none⟩ = some y := by
 refine ⟨((Below.refl _ _).alloc (Nat.le_refl _) _).alloc (by simp) _, cell_past _ (cell_box _ _ _), ?_⟩
 have := cell_box (w.alloc (.cells #[x] t)) y u
 rw [World.size_alloc] at this
 exact this

set_option maxHeartbeats 1000000 in
theorem below_calls (l : List Ver) (base : Option Addr) (n c : Nat) (by_ : Int) (w : World) (hn : n < 4611686018427387904) (hr : Rise l) (ha : Vers w base n c l) :
   Calls Tryz.prog 107 #[.slice base n c, .int .i64 by_] w fun e w' => e = .returned (.int .i64 (belV by_ l)) ∧ Below w.heap.size w w' := by
 have hmf : ∀ (fn : Fn) (first cap : Array Value) (w : World), (Instr.makeFunc fn first cap).run Tryz.prog w = .ok (.func fn first cap) w := fun _ _ _ _ => rfl
 have HN := hid (Vers.count ha)
 obtain ⟨W, hW⟩ : ∃ W, W = (w.alloc (.cells #[.slice base n c] 113)).alloc (.cells #[.int .i64 by_] 3) := ⟨_, rfl⟩
 obtain ⟨hbel, ca, ck⟩ := two_boxes w (.slice base n c) (.int .i64 by_) 113 3
 rw [← hW] at hbel ca ck
 have hV := ha.below (by decide) hbel
 have HS := hid (searchF_calls 126 #[.pointer (some ⟨w.heap.size, 0, none⟩), .pointer (some ⟨w.heap.size + 1, 0, none⟩)] n (fun i => decide (by_ ≤ (l.getD i default).by_)) W versClo_in hn
   (fun m i hi => by
     rcases hV.run with h | ⟨b, o, rfl, hrun⟩
     · omega
     obtain ⟨c0, _⟩ := Vers.cells hrun (i := i) (by rw [← HN.out]; exact hi)
     exact (versClo_calls b o n c w.heap.size (w.heap.size + 1) i _ by_ (W.drewN m) hi (cell_drewN m ca) (cell_drewN m ck) (cell_drewN m c0)).mono fun e w' ⟨he, q, hq⟩ => ⟨he, m + q, by rw [hq, World.drewN_drewN]⟩)
   (fun x y hxy hy hx => by
     by_cases e : x = y
     · subst e; exact hx
     · have h2 := rise_lt hr (i := x) (j := y) (by omega) (by rw [← HN.out]; exact hy)
       simp only [decide_eq_true_eq] at hx ⊢
       omega))
 have HB := hid hbel
 clear ca ck hbel hV ha hr
 subst hW
 go_enter Tryz.func107, Tryz.ntmps107
 go_wp2_with fail
 refine HS.out.mono ?_
 rintro e w' ⟨m, rfl, hm, f1, f2, q, rfl⟩
 have hpos : m = belV by_ l := belV_is (by rw [← HN.out]; exact hm) (fun t ht => by have := f1 t ht; simp only [decide_eq_false_iff_not] at this; omega)
   (fun h => by have := f2 m (Nat.le_refl _) (by rw [HN.out]; exact h); simp only [decide_eq_true_eq] at this; omega)
 have HP := hid hpos
 clear hpos f1 f2
 go_wp2
 go_ret
 exact ⟨ret_int (show ((m : Nat) : Int) = ((belV by_ l : Nat) : Int) by rw [HP.out]), below_drewN HB.out _⟩

set_option maxHeartbeats 1000000 in
theorem findC_calls (L : List Chn) (base : Option Addr) (n c : Nat) (k : ByteArray) (w : World) (hn : n < 4611686018427387904) (hs : SrtC L) (ha : ChainsIn w base n c L) :
   Calls Tryz.prog 100 #[.slice base n c, .string k] w fun e w' => e = .returned (.tuple #[.int .i64 (posC k L), .bool (isAtC k L)]) ∧ Below w.heap.size w w' := by
 have hmf : ∀ (fn : Fn) (first cap : Array Value) (w : World), (Instr.makeFunc fn first cap).run Tryz.prog w = .ok (.func fn first cap) w := fun _ _ _ _ => rfl
 have HN := hid ha.len
 obtain ⟨W, hW⟩ : ∃ W, W = (w.alloc (.cells #[.slice base n c] 30)).alloc (.cells #[.string k] 9) := ⟨_, rfl⟩
 obtain ⟨hbel, ca, ck⟩ := two_boxes w (.slice base n c) (.string k) 30 9
 rw [← hW] at hbel ca ck
 have hV := ha.below hbel
 have HS := hid (searchF_calls 123 #[.pointer (some ⟨w.heap.size, 0, none⟩), .pointer (some ⟨w.heap.size + 1, 0, none⟩)] n (fun i => !less (L.getD i default).1 k) W keyClo_in hn
   (fun m i hi => by
     rcases hV.run with h | ⟨b, o, rfl, hrun⟩
     · omega
     obtain ⟨vb, vn, vc, c0, _⟩ := hrun i hi
     exact (keyClo_calls b o n c w.heap.size (w.heap.size + 1) i _ k (W.drewN m) hi (cell_drewN m ca) (cell_drewN m ck) (cell_drewN m c0)).mono fun e w' ⟨he, q, hq⟩ => ⟨he, m + q, by rw [hq, World.drewN_drewN]⟩)
   (fun x y hxy hy hx => by
     by_cases e : x = y
     · subst e; exact hx
     · have h2 := srtC_lt hs (i := x) (j := y) (by omega) (by rw [← HN.out]; exact hy)
       cases h3 : less (L.getD y default).1 k with
       | false => rfl
       | true => rw [less_trans h2 h3] at hx; exact hx))
 have HB := hid hbel
 have HV := hid hV
 have HAT : Hid (isAtC k L = (decide (posC k L < L.length) && decide ((L.getD (posC k L) default).1 = k))) := rfl
 clear ca ck hbel hV ha hs
 subst hW
 go_enter Tryz.func100, Tryz.ntmps100
 go_wp2_with fail
 refine HS.out.mono ?_
 rintro e w' ⟨m, rfl, hm, f1, f2, q, rfl⟩
 have hpos : m = posC k L := posC_is (by rw [← HN.out]; exact hm) (fun t ht => by simpa using f1 t ht) (fun h => by simpa using f2 m (Nat.le_refl _) (by rw [HN.out]; exact h))
 rw [← hpos, ← HN.out] at HAT
 have HP := hid hpos
 clear hpos f1 f2 HS
 by_cases hlt : m < n
 · have hdec : decide ((m : Int) < (n : Int)) = true := by simp; omega
   have hi : (m : Int) < (n : Int) := by omega
   rcases HV.out.run with h | ⟨b, o, rfl, hrun⟩
   · omega
   obtain ⟨vb, vn, vc, c0, _⟩ := hrun m hlt
   have hbw : b < w.heap.size + 1 + 1 := by simpa using World.block_lt_of_cell? _ _ c0
   clear hrun
   generalize (L.getD m default).1 = kk at *
   go_wp2
   go_quiet (fail)
   go_wp2
   go_ret2
   refine ⟨?_, below_drewN (below_drewN HB.out _) _⟩
   rw [HAT.out, ← HP.out]
   by_cases e : kk = k
   · simp [hlt, e]
   · have : ¬ kk.toList = k.toList := fun h => e (toList_inj h)
     simp [hlt, e, this]
 · have hdec : decide ((m : Int) < (n : Int)) = false := by simp; omega
   go_wp2
   go_quiet (fail)
   go_wp2
   go_ret2
   refine ⟨?_, below_drewN (below_drewN HB.out _) _⟩
   rw [HAT.out, ← HP.out]
   simp [hlt]

structure Four (w : World) (b : Nat) (y : Int) (m h : Bool) (x : Int) : Prop where
 c0 : w.cell? ⟨b, 0, none⟩ = some (.int .i64 y)
 c1 : w.cell? ⟨b, 1, none⟩ = some (.bool m)
 c2 : w.cell? ⟨b, 2, none⟩ = some (.bool h)
 c3 : w.cell? ⟨b, 3, none⟩ = some (.int .i64 x)
theorem Four.below {w w' : World} {b : Nat} {y : Int} {m h : Bool} {x : Int} (k : Four w b y m h x) (hb : Below w.heap.size w w') : Four w' b y m h x := ⟨kept_cell hb k.c0, kept_cell hb k.c1, kept_cell hb k.c2, kept_cell hb k.c3⟩
theorem Four.lt {w : World} {b : Nat} {y : Int} {m h : Bool} {x : Int} (k : Four w b y m h x) : b < w.heap.size := by simpa using World.block_lt_of_cell? _ _ k.c0
theorem Four.box (w : World) (y : Int) (m h : Bool) (x : Int) (t : TypeId) : Four (w.alloc (.cells #[.int .i64 y, .bool m, .bool h, .int .i64 x] t)) w.heap.size y m h x :=
 ⟨box_cell _ _ _ 0 _ rfl, box_cell _ _ _ 1 _ rfl, box_cell _ _ _ 2 _ rfl, box_cell _ _ _ 3 _ rfl⟩
theorem Four.put {w : World} {b : Nat} {y : Int} {m h : Bool} {x : Int} (k : Four w b y m h x) (y' : Int) (m' h' : Bool) (x' : Int) :
   Four ((((w.setCell ⟨b, 0, none⟩ (.int .i64 y')).setCell ⟨b, 1, none⟩ (.bool m')).setCell ⟨b, 2, none⟩ (.bool h')).setCell ⟨b, 3, none⟩ (.int .i64 x')) b y' m' h' x' := by
 refine ⟨?_, ?_, ?_, ?_⟩
 · rw [set_off (by decide), set_off (by decide), set_off (by decide)]
   exact World.cell?_setCell_same _ _ _ k.c0
 · rw [set_off (by decide), set_off (by decide)]
   exact World.cell?_setCell_same _ _ _ (by rw [set_off (by decide)]; exact k.c1)
 · rw [set_off (by decide)]
   exact World.cell?_setCell_same _ _ _ (by rw [set_off (by decide), set_off (by decide)]; exact k.c2)
 · exact World.cell?_setCell_same _ _ _ (by rw [set_off (by decide), set_off (by decide), set_off (by decide)]; exact k.c3)
theorem four_below {w w' : World} {B b : Nat} {u0 u1 u2 u3 : Value} (h : Below B w w') (hb : B ≤ b) : Below B w ((((w'.setCell ⟨b, 0, none⟩ u0).setCell ⟨b, 1, none⟩ u1).setCell ⟨b, 2, none⟩ u2).setCell ⟨b, 3, none⟩ u3) :=
 (((h.setCell (p := ⟨b, 0, none⟩) hb _).setCell (p := ⟨b, 1, none⟩) hb _).setCell (p := ⟨b, 2, none⟩) hb _).setCell (p := ⟨b, 3, none⟩) hb _
structure Free4 (w : World) (b : Nat) : Prop where
 f0 : w.frozen? ⟨b, 0, none⟩ = false
 f1 : w.frozen? ⟨b, 1, none⟩ = false
 f2 : w.frozen? ⟨b, 2, none⟩ = false
 f3 : w.frozen? ⟨b, 3, none⟩ = false
theorem Free4.box (w : World) (vs : Array Value) (t : TypeId) : Free4 (w.alloc (.cells vs t)) w.heap.size :=
 ⟨World.frozen?_alloc_at _ _ _ _ rfl, World.frozen?_alloc_at _ _ _ _ rfl, World.frozen?_alloc_at _ _ _ _ rfl, World.frozen?_alloc_at _ _ _ _ rfl⟩
theorem Free4.below {w w' : World} {b : Nat} (h : Free4 w b) (hb : Below w.heap.size w w') (hlt : b < w.heap.size) : Free4 w' b :=
 ⟨kept_free hb ⟨hlt, h.f0⟩, kept_free hb ⟨hlt, h.f1⟩, kept_free hb ⟨hlt, h.f2⟩, kept_free hb ⟨hlt, h.f3⟩⟩
theorem last_results (tmps : Array Value) (b : Nat) (w : World) {y : Int} {m h : Bool} {x : Int} (h4 : tmps.getD 4 undef = .pointer (some ⟨b, 0, none⟩)) (k : Four w b y m h x) :
   (results Tryz.f86 tmps).run Tryz.prog w = .ok (.agg #[.int .i64 y, .bool m, .bool h, .int .i64 x]) w := by
 have h4' : tmps[4]?.getD undef = .pointer (some ⟨b, 0, none⟩) := by simpa using h4
 simp [results, Tryz.results86, go_sem, h4', k.c0, k.c1, k.c2, k.c3]
theorem before_results (tmps : Array Value) (b : Nat) (w : World) {y : Int} {m h : Bool} {x : Int} (h4 : tmps.getD 6 undef = .pointer (some ⟨b, 0, none⟩)) (k : Four w b y m h x) :
   (results Tryz.f81 tmps).run Tryz.prog w = .ok (.agg #[.int .i64 y, .bool m, .bool h, .int .i64 x]) w := by
 have h4' : tmps[6]?.getD undef = .pointer (some ⟨b, 0, none⟩) := by simpa using h4
 simp [results, Tryz.results81, go_sem, h4', k.c0, k.c1, k.c2, k.c3]

def VerTold (w w' : World) (v : Ver) (e : Ending) : Prop := ∃ (y : Int) (m h : Bool) (x : Int), v = (y, m, h, x) ∧ e = .returned (.agg #[.int .i64 y, .bool m, .bool h, .int .i64 x]) ∧ Below w.heap.size w w'

set_option maxHeartbeats 1000000 in
theorem lastBelow_calls (l : List Ver) (base : Option Addr) (n c : Nat) (by_ : Int) (w : World) (hn : n < 4611686018427387904) (hr : Rise l) (ha : Vers w base n c l) :
   Calls Tryz.prog 86 #[.slice base n c, .int .i64 by_] w fun e w' => VerTold w w' (befV by_ l ver0) e := by
 have HG := hid (grew w (.cells #[.int .i64 0, .bool false, .bool false, .int .i64 0] 78))
 have HBC := hid (below_calls l base n c by_ _ hn hr (ha.below (by decide) HG.out))
 have HE := hid (befV_bel (by_ := by_) ver0 hr)
 have hle := belV_le by_ l
 rw [← Vers.count ha] at hle
 have HV := hid (ha.below (by decide) HG.out)
 have HN := hid (Vers.count ha)
 clear ha hr
 generalize belV by_ l = m at *
 go_enter Tryz.func86, Tryz.ntmps86
 go_wp2_with fail
 refine HBC.out.mono ?_
 rintro e w1 ⟨rfl, hb⟩
 have hfo := (Four.box w 0 false false 0 78).below hb
 have hfr := (Free4.box w #[.int .i64 0, .bool false, .bool false, .int .i64 0] 78).below hb (by simp)
 have HFO := hid hfo
 obtain ⟨g0, g1, g2, g3⟩ := hfo
 obtain ⟨f0, f1, f2, f3⟩ := hfr
 have HV1 := hid (HV.out.below (by decide) hb)
 have HB := hid (below_deep HG.out hb)
 have hlt : w.heap.size < w1.heap.size := by simpa using World.block_lt_of_cell? _ _ g0
 clear hb HBC
 cases m with
 | zero =>
   have HE0 : Hid (befV by_ l ver0 = (-1, true, false, 0)) := by show _ = _; rw [HE.out]; rfl
   go_wp2
   (try simp only [Exit.inBlock, Exit.then])
   refine bodyPost_ret (last_results _ w.heap.size _ rfl (HFO.out.put _ _ _ _)) rfl ?_
   exact ⟨_, _, _, _, HE0.out, rfl, four_below HB.out (Nat.le_refl _)⟩
 | succ m =>
   rcases HV1.out.run with h | ⟨b, o, rfl, hrun⟩
   · omega
   obtain ⟨c0, c1, c2, c3⟩ := Vers.cells hrun (i := m) (by rw [← HN.out]; omega)
   have hbw : b < w1.heap.size := by simpa using World.block_lt_of_cell? _ _ c0
   have HE0 : Hid (befV by_ l ver0 = l.getD m default) := by show _ = _; rw [HE.out]; rfl
   clear hrun
   rcases hx : l.getD m default with ⟨y, mm, hh, x⟩
   rw [hx] at c0 c1 c2 c3 HE0
   simp only [Ver.by_, Ver.made, Ver.has_, Ver.n] at c0 c1 c2 c3
   clear hx
   have hwr : IntKind.i64.wrap (m : Int) = (m : Int) := by rw [IntKind.wrap_i64]; omega
   have hi : (m : Int) < (n : Int) := by omega
   go_wp2
   (try simp only [Exit.inBlock, Exit.then])
   refine bodyPost_ret (last_results _ w.heap.size _ rfl (HFO.out.put _ _ _ _)) rfl ?_
   exact ⟨_, _, _, _, HE0.out, rfl, four_below HB.out (Nat.le_refl _)⟩

set_option maxHeartbeats 1000000 in
theorem ownVers_calls (l : List Ver) (base : Option Addr) (n c : Nat) (w : World) (hn : n * 24 ≤ 140737488355328) (ha : Vers w base n c l) :
   Calls Tryz.prog 88 #[.slice base n c] w fun e w' => ∃ b' c', e = .returned (.slice b' n c') ∧ OwnsV w' w.heap.size (.slice b' n c') l ∧ Below w.heap.size w w' := by
 have HA := hid ha
 have HN : Hid ((0 + n) * 24 ≤ 140737488355328) := by show _ ≤ _; omega
 have HL := hid (Vers.count ha)
 clear ha hn
 go_enter Tryz.func88, Tryz.ntmps88
 go_wp2_with (at_builtin; refine wpList_onto _ rfl _ _ 113 78 4 24 _ Tryz.underlying113 verInfo rfl (by decide) (by decide) rfl w.heap.size _ 0 [] rfl (World.ownsRow_nil _ _ _ _) base n c (flat verC l) rfl HA.out (flatV_one l) HN.out (Nat.le_refl _) ?_)
 intro v' w' h1 h2
 have h3 : w'.ownsRow w.heap.size 78 4 v' n (flat verC l) := by simpa using h1
 obtain ⟨b', c', rfl, hl⟩ := Lies.owned h3
 have H3 : Hid (OwnsV w' w.heap.size (.slice b' n c') l) := by
   show World.ownsRow _ _ _ _ _ _ _
   rw [← HL.out]; exact h3
 have HB := hid ((Below.refl _ w).grown h2 (Nat.le_refl _) (fun k hk => by cases hk))
 clear h1 h2 h3 hl
 go_wp2
 go_ret
 exact ⟨_, _, rfl, H3.out, HB.out⟩

structure FitC (L : List Chn) : Prop where
 srt : SrtC L
 key : ∀ c ∈ L, keyB c.1 = true
 rise : ∀ c ∈ L, Rise c.2
 few : ∀ c ∈ L, c.2.length ≤ 1954687338214
theorem FitC.count {L : List Chn} (h : FitC L) : L.length ≤ 387420489 := chains_few h.srt h.key
theorem memC {L : List Chn} {i : Nat} (h : i < L.length) : L.getD i default ∈ L := by simp [List.getD, h]

set_option maxHeartbeats 1000000 in
theorem before_calls (L : List Chn) (base : Option Addr) (n c : Nat) (k : ByteArray) (by_ : Int) (w : World) (hf : FitC L) (ha : ChainsIn w base n c L) :
   Calls Tryz.prog 81 #[.slice base n c, .string k, .int .i64 by_] w fun e w' => VerTold w w' (before L k by_) e := by
 have hc := hf.count
 have HG := hid (grew w (.cells #[.int .i64 0, .bool false, .bool false, .int .i64 0] 78))
 have HFC := hid (findC_calls L base n c k _ (by have := ha.len; omega) hf.srt (ha.below HG.out))
 have HE : Hid (before L k by_ = befV by_ (if isAtC k L = true then (L.getD (posC k L) default).2 else []) ver0) := by
   show _ = _
   unfold before; rw [vsOf_at hf.srt]
 have HAT : Hid (isAtC k L = true → posC k L < L.length) := by
   intro h
   unfold isAtC at h
   simp only [Bool.and_eq_true, decide_eq_true_eq] at h
   exact h.1
 have HV := hid (ha.below HG.out)
 have HN := hid ha.len
 have HF := hid hf
 have hcn : n ≤ 387420489 := by rw [ha.len]; exact hc
 clear ha hf hc
 generalize posC k L = p at *
 cases hat : isAtC k L with
 | false =>
   rw [hat] at HE HFC
   clear hat HAT
   go_enter Tryz.func81, Tryz.ntmps81
   go_wp2_with fail
   refine HFC.out.mono ?_
   rintro e w1 ⟨rfl, hb⟩
   have HFO := hid ((Four.box w 0 false false 0 78).below hb)
   have HFR := hid ((Free4.box w #[.int .i64 0, .bool false, .bool false, .int .i64 0] 78).below hb (by simp))
   have HB := hid (below_deep HG.out hb)
   have HL := hid (lastBelow_calls [] none 0 0 by_ w1 (by omega) List.Pairwise.nil (Lies.none _ _))
   clear hb HFC
   go_wp2_with fail
   refine HL.out.mono ?_
   rintro e w2 ⟨y, mm, hh, x, hv, rfl, hb2⟩
   have hfo := HFO.out.below hb2
   have hfr := HFR.out.below hb2 HFO.out.lt
   have HFO2 := hid hfo
   obtain ⟨g0, g1, g2, g3⟩ := hfo
   obtain ⟨f0, f1, f2, f3⟩ := hfr
   have HB2 := hid (below_deep HB.out hb2)
   have HE2 : Hid (before L k by_ = (y, mm, hh, x)) := by show _ = _; rw [HE.out, ← hv]; rfl
   clear hb2 hv HL
   go_wp2
   (try simp only [Exit.inBlock, Exit.then])
   refine bodyPost_ret (before_results _ w.heap.size _ rfl (HFO2.out.put _ _ _ _)) rfl ?_
   exact ⟨_, _, _, _, HE2.out, rfl, four_below HB2.out (Nat.le_refl _)⟩
 | true =>
   have HPL := hid (HAT.out hat)
   rw [hat] at HE HFC
   clear hat HAT
   have hpl : p < n := by rw [HN.out]; exact HPL.out
   have hi : (p : Int) < (n : Int) := by omega
   go_enter Tryz.func81, Tryz.ntmps81
   go_wp2_with fail
   refine HFC.out.mono ?_
   rintro e w1 ⟨rfl, hb⟩
   have HFO := hid ((Four.box w 0 false false 0 78).below hb)
   have HFR := hid ((Free4.box w #[.int .i64 0, .bool false, .bool false, .int .i64 0] 78).below hb (by simp))
   have HB := hid (below_deep HG.out hb)
   rcases (HV.out.below hb).run with h | ⟨b, o, rfl, hrun⟩
   · omega
   obtain ⟨vb, vn, vc, c0, c1, hvv, _⟩ := hrun p hpl
   have hbw : b < w1.heap.size := by simpa using World.block_lt_of_cell? _ _ c0
   have hmem : L.getD p default ∈ L := memC HPL.out
   have HL := hid (lastBelow_calls _ vb vn vc by_ w1 (by have := HF.out.few _ hmem; have := Vers.count hvv; omega) (HF.out.rise _ hmem) hvv)
   clear hb HFC hrun hvv hmem
   go_wp2_with fail
   refine HL.out.mono ?_
   rintro e w2 ⟨y, mm, hh, x, hv, rfl, hb2⟩
   have hfo := HFO.out.below hb2
   have hfr := HFR.out.below hb2 HFO.out.lt
   have HFO2 := hid hfo
   obtain ⟨g0, g1, g2, g3⟩ := hfo
   obtain ⟨f0, f1, f2, f3⟩ := hfr
   have HB2 := hid (below_deep HB.out hb2)
   have HE2 : Hid (before L k by_ = (y, mm, hh, x)) := by show _ = _; rw [HE.out, ← hv]; rfl
   clear hb2 hv HL
   go_wp2
   (try simp only [Exit.inBlock, Exit.then])
   refine bodyPost_ret (before_results _ w.heap.size _ rfl (HFO2.out.put _ _ _ _)) rfl ?_
   exact ⟨_, _, _, _, HE2.out, rfl, four_below HB2.out (Nat.le_refl _)⟩
end Go.Proofs.YtlhaeeenkgkdaaaGreatDoor
