/-
  Plain mathematics of what is seen at a replica: ahead of the first deed that waits, and when none waits.
-/
import Derived.Test.YtnbekpblmkdnlaaGreatDoorRepFinds
namespace Go.Proofs.YtnbekpblmkdnlaaGreatDoor
open Go.RowKit

theorem seen_to_mark {r0 : List Row} {D : List Deed3} {m : Nat} {dn : Nat → Bool} {b : ByteArray → Int} {e : Eng} (G : Good r0 D m dn b e) : seenTo e (markE e) = (seqR r0 D (m + markE e), 0) := by
 have h1 := G.mark.le
 have h2 := G.len
 have h3 := G.le
 unfold seenTo
 rw [if_neg (by omega), seen_mark G]
theorem seen_same {r0 : List Row} {D : List Deed3} {m : Nat} {dn : Nat → Bool} {b : ByteArray → Int} {e : Eng} (G : Good r0 D m dn b e) : seenTo (clearE e (markE e)) (markE (clearE e (markE e))) = seenTo e (markE e) := by
 rw [seen_to_mark G, seen_to_mark (mark_clear G), mark_zero G, Nat.add_zero]
theorem mark_end {r0 : List Row} {D : List Deed3} {m : Nat} {dn : Nat → Bool} {b : ByteArray → Int} {y : Eng} (G : Good r0 D m dn b y) (h : ∀ i, m ≤ i → i < D.length → dn i = true) : m + markE y = D.length := by
 have h1 := G.mark.le
 rcases Nat.lt_or_ge (m + markE y) D.length with hl | hl
 · have h2 := G.mark.wait hl
   rw [h _ (Nat.le_add_right _ _) hl] at h2
   cases h2
 · omega
theorem seen_fin {r0 : List Row} {D : List Deed3} {m : Nat} {dn : Nat → Bool} {b : ByteArray → Int} {y : Eng} (G : Good r0 D m dn b y) (h : ∀ i, m ≤ i → i < D.length → dn i = true) : seenTo y (markE y) = (seqR r0 D D.length, 0) := by
 rw [seen_to_mark G, mark_end G h]
structure TwinR (D : List Deed3) (m : Nat) (dn : Nat → Bool) (b : ByteArray → Int) (m' : Nat) (dn' : Nat → Bool) (b' : ByteArray → Int) (ra xa : Rep) : Prop where
 one : Good [] D m dn b ra.eng
 two : Good [] D m' dn' b' xa.eng
 next : ra.next = xa.next
 few : D.length ≤ 72
theorem twin_come {es : List Ent} {m : Nat} {dn : Nat → Bool} {b : ByteArray → Int} {r : Rep} (h : GoodR es m dn b r) {e : Ent} (he : RightEnt e) : (comeR r e).2 = (comeR ⟨clearE r.eng (markE r.eng), r.next, r.early⟩ e).2 ∧ ∃ D m' dn' b', TwinR D m dn b m' dn' b' (comeR r e).1 (comeR ⟨clearE r.eng (markE r.eng), r.next, r.early⟩ e).1 := by
 obtain ⟨A, nx, ea, q, hA, hc⟩ := come_parts r.next r.early e
 have h1 := hc r.eng
 have h2 := hc (clearE r.eng (markE r.eng))
 have hr : RightDs A := fun d hd => by
   rcases hA d hd with h3 | ⟨x, hx, h3⟩
   · exact he.2.2.2 d h3
   · exact (h.early x hx).2.2.2 d h3
 have G1 := h.eng.addAll hr
 have G2 := (mark_clear h.eng).addAll hr
 obtain ⟨more, -, hg, -⟩ := come_good h he
 have h1' : comeR r e = (⟨addAll r.eng A, nx, ea⟩, q) := h1
 rw [h1'] at hg ⊢
 rw [h2]
 refine ⟨rfl, _, _, _, _, ⟨G1, G2, rfl, ?_⟩⟩
 have f1 := hg.few
 have f2 := hg.eng.len
 have f3 := G1.len
 have f4 := G1.le
 have f5 := hg.eng.le
 have f6 : (addAll r.eng A).deeds.length = (deedsOf (es ++ more)).length - m := f2
 rw [f3] at f6
 have f7 := h.eng.le
 simp only [List.length_append] at f6 f4 ⊢
 omega
end Go.Proofs.YtnbekpblmkdnlaaGreatDoor
