/-
  Plain mathematics of how the program catches up: an entry that is next is kept first, then those that are next are planned, one by one.
  Entries and replicas whose rows a call owns; the program's 'with' and Own of replicas.
  Wrong of the program and of the document's answer tell what is wrong with an entry, walked.
  Where an entry belongs: the program's 'place'; an entry kept behind others: 'keep'.
  The library's functions that the program calls are those whose contracts are known.
  The functions of package slices that plan calls: Contains over texts, Sort and Compact over a row of numbers that the call owns.
-/
import Derived.Test.YtnbekpblmkdnlaaGreatDoorRepFinds
import Derived.Test.YtnbekpblmkdnlaaGreatDoorRefSameR
import Derived.Test.YtnbekpblmkdnlaaGreatDoorPlanOwn
import Derived.Test.YtnbekpblmkdnlaaGreatDoorComeIn
import Derived.Deep.RegionWith
import Derived.Test.YtnbekpblmkdnlaaGreatDoorTextKeys
import Derived.Test.YtnbekpblmkdnlaaGreatDoorRefWrong
import Derived.Test.YtnbekpblmkdnlaaGreatDoorEngSet
import Derived.Deep.RegionHeld3
import Derived.Shelf.Slices.Turned
import Derived.Shelf.Slices.CompactI
import Derived.Shelf.Sort.Plain
import Derived.Shelf.Slices.In.SortNone
import Derived.Test.YtnbekpblmkdnlaaGreatDoorProg
import Derived.Test.YtnbekpblmkdnlaaGreatDoorSearch
import Derived.Lib.OwnBridge
import Derived.Sort.OwnSortedInts
namespace Go.Proofs.YtnbekpblmkdnlaaGreatDoor
open Go.RowKit

structure Catch (D : List Deed3) (m : Nat) (dn : Nat → Bool) (b : ByteArray → Int) (q : Rep) : Prop where
 eng : Good [] D m dn b q.eng
 room : D.length + 6 * q.early.length ≤ 1000
 lo : 0 ≤ q.next
 hi : q.next + q.early.length ≤ 1000
 one : q.early.Pairwise (fun x y => x.1 ≠ y.1)
 early : ∀ x ∈ q.early, RightEnt x
theorem getD_mem {L : List Ent} {j : Nat} (h : j < L.length) : L.getD j default ∈ L := by
 have : L.getD j default = L[j] := by simp [List.getD, h]
 rw [this]; exact List.getElem_mem h
theorem without_len {α : Type} {L : List α} {j : Nat} (h : j < L.length) : (L.take j ++ L.drop (j + 1)).length + 1 = L.length := by
 rw [List.length_append, List.length_take, List.length_drop]; omega
theorem without_sub {α : Type} (L : List α) (j : Nat) : (L.take j ++ L.drop (j + 1)).Sublist L := by
 have h1 : L.take j ++ L.drop j = L := List.take_append_drop j L
 have h2 : (L.drop (j + 1)).Sublist (L.drop j) := List.drop_sublist_drop_left L (Nat.le_succ j)
 have h3 := (List.Sublist.refl (L.take j)).append h2
 rw [h1] at h3
 exact h3
theorem Catch.stop {q : Rep} (h : ∀ j, j < q.early.length → (q.early.getD j default).1 ≠ q.next) (f : Nat) : pullR f q = q := pull_none (find_none h)
theorem Catch.next {D : List Deed3} {m : Nat} {dn : Nat → Bool} {b : ByteArray → Int} {q : Rep} (h : Catch D m dn b q) {j : Nat} (hj : j < q.early.length) (hn : (q.early.getD j default).1 = q.next) :
   Catch (D ++ (q.early.getD j default).2) m dn b ⟨addAll q.eng (q.early.getD j default).2, q.next + 1, q.early.take j ++ q.early.drop (j + 1)⟩ ∧
     pullR q.early.length q = pullR (q.early.take j ++ q.early.drop (j + 1)).length ⟨addAll q.eng (q.early.getD j default).2, q.next + 1, q.early.take j ++ q.early.drop (j + 1)⟩ := by
 have hr := h.early _ (getD_mem hj)
 have hl := without_len hj
 have h1 := h.room
 have h2 := h.lo
 have h3 := h.hi
 obtain ⟨f1, f2⟩ := find_here hj hn h.one
 refine ⟨⟨h.eng.addAll hr.2.2.2, ?_, ?_, ?_, h.one.sublist (without_sub _ _), fun x hx => h.early x ((without_sub _ _).subset hx)⟩, ?_⟩
 · have := hr.2.2.1
   simp only [List.length_append] at this ⊢ hl
   omega
 · show 0 ≤ q.next + 1
   omega
 · show q.next + 1 + _ ≤ 1000
   simp only at hl ⊢
   omega
 · obtain ⟨eng, nx, ea⟩ := q
   simp only at hl hj hn f1 f2 ⊢
   rw [← hl, pull_some f1, f2]
theorem catch_next {es : List Ent} {m : Nat} {dn : Nat → Bool} {b : ByteArray → Int} {r : Rep} (h : GoodR es m dn b r) {e : Ent} (he : RightEnt e) (hh : hadR r e = false) (hn : e.1 = r.next) :
   Catch (deedsOf es) m dn b ⟨r.eng, r.next, r.early ++ [e]⟩ ∧ comeR r e = (pullR (r.early ++ [e]).length ⟨r.eng, r.next, r.early ++ [e]⟩, 0) := by
 have h1 := h.few
 have h2 := h.most
 have h3 := h.four
 have h4 := h.next
 have hw : Catch (deedsOf es) m dn b ⟨r.eng, r.next, r.early ++ [e]⟩ := by
   refine ⟨h.eng, ?_, ?_, ?_, ?_, fun x hx => ?_⟩
   · simp; omega
   · show 0 ≤ r.next; omega
   · simp; omega
   · show (r.early ++ [e]).Pairwise _
     rw [List.pairwise_append]
     refine ⟨h.one, List.pairwise_singleton _ _, fun x hx y hy => ?_⟩
     simp at hy
     have := h.later x hx
     rw [hy, hn, h4]; omega
   · rcases List.mem_append.1 hx with hx | hx
     · exact h.early x hx
     · simp at hx; rw [hx]; exact he
 have hj : r.early.length < (r.early ++ [e]).length := by simp
 have hg : (r.early ++ [e]).getD r.early.length default = e := by simp [List.getD]
 have ht : (r.early ++ [e]).take r.early.length = r.early := by simp
 have hd : (r.early ++ [e]).drop (r.early.length + 1) = [] := by simp
 have := (hw.next (q := ⟨r.eng, r.next, r.early ++ [e]⟩) (j := r.early.length) hj (by show ((r.early ++ [e]).getD _ _).1 = r.next; rw [hg]; exact hn)).2
 refine ⟨hw, ?_⟩
 simp only [hg, ht, hd, List.append_nil] at this
 rw [this]
 unfold comeR
 rw [if_neg (by rw [hh]; simp), if_neg (by omega)]
theorem come_early {r : Rep} {e : Ent} (hh : hadR r e = false) (hn : r.next < e.1) : comeR r e = if 4 ≤ r.early.length then (r, 5) else (⟨r.eng, r.next, r.early ++ [e]⟩, 12) := by
 unfold comeR
 rw [if_neg (by rw [hh]; simp), if_pos hn]
theorem come_had2 {r : Rep} {e : Ent} (hh : hadR r e = true) : comeR r e = (r, 11) := by
 unfold comeR
 rw [if_pos hh]
end Go.Proofs.YtnbekpblmkdnlaaGreatDoor

namespace Go.Proofs.YtnbekpblmkdnlaaGreatDoor
open Go.RowKit

theorem few_deeds {D : List Deed3} (h : RightDs D) : FewD 1048576 D := fun j hj => by
 have hd : D.getD j default ∈ D := by
   have : D.getD j default = D[j] := by simp [List.getD, hj]
   rw [this]; exact List.getElem_mem hj
 have hr := h _ hd
 have h1 := wKeys_len hr.r
 have h2 := wKeys_len hr.w
 have h3 := hr.c
 omega
theorem few_ents {L : List Ent} (h : ∀ x ∈ L, RightEnt x) : FewE 1048576 L := fun i hi => by
 have hx := h _ (getD_mem hi)
 exact ⟨Nat.le_trans hx.2.2.1 (by decide), few_deeds hx.2.2.2⟩
theorem ESlotK.off {w w' : World} {b : Nat} {cs : Array Value} {t : TypeId} {s : ESlot} {x : Ent} (h : ESlotK w s x) (hb : Box w b cs t) (h1 : 9 ≠ t) (h2 : 76 ≠ t) (h3 : 52 ≠ t) (ho : Off b w w') : ESlotK w' s x := by
 obtain ⟨k1, k2, T, k3, k4⟩ := h
 exact ⟨k1, k2.off ho (kind_ne hb k2 h3), T, k3.off ho (.inr (kind_ne hb k2 h3)), k4.off hb h1 h2 ho⟩
theorem ESlotsK.off {w w' : World} {b : Nat} {cs : Array Value} {t : TypeId} {S : List ESlot} {L : List Ent} (h : ESlotsK w S L) (hb : Box w b cs t) (h1 : 9 ≠ t) (h2 : 76 ≠ t) (h3 : 52 ≠ t) (ho : Off b w w') : ESlotsK w' S L := ⟨h.1, fun i hi => (h.2 i hi).off hb h1 h2 h3 ho⟩
theorem ESlotsK.without {w : World} {S : List ESlot} {L : List Ent} (h : ESlotsK w S L) {j : Nat} (hj : j < L.length) : ESlotsK w (S.take j ++ S.drop (j + 1)) (L.take j ++ L.drop (j + 1)) := by
 have hs := h.1
 have hjS : j < S.length := by rw [hs]; exact hj
 refine ⟨by simp; omega, fun i hi => ?_⟩
 rw [getD_without S _ hjS, getD_without L _ hj]
 have hi' : i < L.length - 1 := by simp at hi; omega
 split
 · exact h.2 i (by omega)
 · exact h.2 (i + 1) (by omega)
theorem ESlotsK.at {w0 w : World} {S : List ESlot} {L : List Ent} (h : ESlotsK w S L) : ESlotsAt w0 w S L :=
 ⟨h.1, fun i hi => ⟨(h.2 i hi).1, .inr ⟨(h.2 i hi).2.1, (h.2 i hi).is.2⟩⟩⟩
structure EarlyOwn (w : World) (B : Nat) (ab : Option Addr) (an ac : Nat) (S : List ESlot) (L : List Ent) : Prop where
 row : w.ownsRow B 27 2 (.slice ab an ac) an (flat eslotC S)
 slots : ESlotsK w S L
theorem EarlyOwn.below {w w' : World} {ab : Option Addr} {B an ac : Nat} {S : List ESlot} {L : List Ent} (h : EarlyOwn w B ab an ac S L) (hb : Below w.heap.size w w') : EarlyOwn w' B ab an ac S L := ⟨owns_keep h.row hb, h.slots.below hb⟩
theorem EarlyOwn.put {w w' : World} {B b : Nat} {cs : Array Value} {t : TypeId} {ab : Option Addr} {an ac : Nat} {S : List ESlot} {L : List Ent} (h : EarlyOwn w B ab an ac S L) (hb : Box w b cs t) (h0 : 27 ≠ t) (h1 : 9 ≠ t) (h2 : 76 ≠ t) (h3 : 52 ≠ t) (ho : Off b w w') : EarlyOwn w' B ab an ac S L :=
 ⟨owns_off h.row ho (own_ne h.row hb (Ne.symm h0)), h.slots.off hb h1 h2 h3 ho⟩
theorem EarlyOwn.lower {w : World} {ab : Option Addr} {B B' an ac : Nat} {S : List ESlot} {L : List Ent} (h : EarlyOwn w B ab an ac S L) (hB : B' ≤ B) : EarlyOwn w B' ab an ac S L := ⟨owns_lower h.row hB, h.slots⟩
theorem EarlyOwn.lies {w : World} {ab : Option Addr} {B an ac : Nat} {S : List ESlot} {L : List Ent} (h : EarlyOwn w B ab an ac S L) : Lies w 2 ab an ac (flat eslotC S) := by
 obtain ⟨b', c', e', h⟩ := Lies.owned h.row
 simp only [Value.slice.injEq, true_and] at e'
 obtain ⟨e1, e2⟩ := e'
 rw [e1, e2]; exact h
theorem EarlyOwn.ents {w : World} {ab : Option Addr} {B an ac : Nat} {S : List ESlot} {L : List Ent} (h : EarlyOwn w B ab an ac S L) : EntsIn w ab an ac L := ents_of_slots h.lies h.slots.are
theorem EarlyOwn.len {w : World} {ab : Option Addr} {B an ac : Nat} {S : List ESlot} {L : List Ent} (h : EarlyOwn w B ab an ac S L) : an = L.length := h.ents.len
theorem EarlyOwn.parts {w0 w : World} {cb db sb eb ab : Option Addr} {B cn cc dn dc sn sc en ec an ac : Nat} {S : List ESlot} {r : Rep} (h : EarlyOwn w B ab an ac S r.early) (he : EngLies w cb cn cc db dn dc sb sn sc eb en ec r.eng) : RepParts w0 w cb cn cc db dn dc sb sn sc eb en ec ab an ac S r :=
 ⟨he, h.lies, h.slots.at, Kind.owned h.row⟩

theorem with_results (tmps : Array Value) (b : Nat) (w : World) {a0 a1 a2 a3 a6 : Option Addr} {n0 n1 n2 n3 n6 c0 c1 c2 c3 c6 : Nat} {z y : Int} (h : tmps.getD 4 undef = .pointer (some ⟨b, 0, none⟩)) (hb : Box w b (repA a0 n0 c0 a1 n1 c1 a2 n2 c2 a3 n3 c3 z y a6 n6 c6) 35) :
   (results Tryz.f30 tmps).run Tryz.prog w = .ok (.agg (repA a0 n0 c0 a1 n1 c1 a2 n2 c2 a3 n3 c3 z y a6 n6 c6)) w := by
 have h' : tmps[4]?.getD undef = .pointer (some ⟨b, 0, none⟩) := by simpa using h
 obtain ⟨k0, k1, k2, k3, k4, k5, k6⟩ := hb.cells7
 simp [results, Tryz.results30, go_sem, h', k0, k1, k2, k3, k4, k5, k6]
def WithTold (w w' : World) (cb : Option Addr) (cn cc : Nat) (db : Option Addr) (dn dc : Nat) (sb : Option Addr) (sn sc : Nat) (eb : Option Addr) (en ec : Nat) (base next : Int) (an : Nat) (L : List Ent) (x : Ending) : Prop :=
 ∃ ab ac S, x = .returned (.agg (repA cb cn cc db dn dc sb sn sc eb en ec base next ab an ac)) ∧ EarlyOwn w' w.heap.size ab an ac S L ∧ Below w.heap.size w w'

set_option maxHeartbeats 8000000 in
set_option maxRecDepth 100000 in
theorem withR_calls (cb : Option Addr) (cn cc : Nat) (db : Option Addr) (dn dc : Nat) (sb : Option Addr) (sn sc : Nat) (eb : Option Addr) (en ec : Nat) (base next : Int) (ab : Option Addr) (an ac : Nat) (cb2 : Option Addr) (cn2 cc2 : Nat) (db2 : Option Addr) (dn2 dc2 : Nat) (sb2 : Option Addr) (sn2 sc2 : Nat) (eb2 : Option Addr) (en2 ec2 : Nat) (base2 : Int) (L : List Ent) (w : World)
   (ha : EntsIn w ab an ac L) (hn : an ≤ 1048576) (hr : ∀ x ∈ L, RightEnt x) :
   Calls Tryz.prog 30 #[.agg (repA cb cn cc db dn dc sb sn sc eb en ec base next ab an ac), .agg (engA cb2 cn2 cc2 db2 dn2 dc2 sb2 sn2 sc2 eb2 en2 ec2 base2)] w fun x w' => WithTold w w' cb2 cn2 cc2 db2 dn2 dc2 sb2 sn2 sc2 eb2 en2 ec2 base2 next an L x := by
 have PO := hid (fun W h => logOwn_callsO L ab an ac W hn (few_ents hr) h)
 have HA := hid ha
 have HX0 := hid (Box.new w (repA cb cn cc db dn dc sb sn sc eb en ec base next ab an ac) 35)
 have HG0 := hid (grew w (.cells (repA cb cn cc db dn dc sb sn sc eb en ec base next ab an ac) 35))
 have HE0 := hid (Box.new (w.alloc (.cells (repA cb cn cc db dn dc sb sn sc eb en ec base next ab an ac) 35)) (engA cb2 cn2 cc2 db2 dn2 dc2 sb2 sn2 sc2 eb2 en2 ec2 base2) 33)
 have HG1 := hid (grew (w.alloc (.cells (repA cb cn cc db dn dc sb sn sc eb en ec base next ab an ac) 35)) (.cells (engA cb2 cn2 cc2 db2 dn2 dc2 sb2 sn2 sc2 eb2 en2 ec2 base2) 33))
 have HZ0 := hid (Box.new ((w.alloc (.cells (repA cb cn cc db dn dc sb sn sc eb en ec base next ab an ac) 35)).alloc (.cells (engA cb2 cn2 cc2 db2 dn2 dc2 sb2 sn2 sc2 eb2 en2 ec2 base2) 33)) nilR 35)
 have HG2 := hid (grew ((w.alloc (.cells (repA cb cn cc db dn dc sb sn sc eb en ec base next ab an ac) 35)).alloc (.cells (engA cb2 cn2 cc2 db2 dn2 dc2 sb2 sn2 sc2 eb2 en2 ec2 base2) 33)) (.cells nilR 35))
 rw [World.size_alloc] at HE0 HZ0
 rw [World.size_alloc] at HZ0
 have HXA := hid (HX0.out.below (below_deep HG1.out HG2.out))
 have HEA := hid (HE0.out.below HG2.out)
 have HBA := hid (below_deep HG0.out (below_deep HG1.out HG2.out))
 clear ha HX0 HE0 HG0 HG1 HG2
 go_enter Tryz.func30, Tryz.ntmps30
 go_upto_region 1 with fail
 generalize ((w.alloc (.cells (repA cb cn cc db dn dc sb sn sc eb en ec base next ab an ac) 35)).alloc (.cells (engA cb2 cn2 cc2 db2 dn2 dc2 sb2 sn2 sc2 eb2 en2 ec2 base2) 33)).alloc (.cells nilR 35) = A at *
 have hl0 : w.heap.size < A.heap.size := HXA.out.lt
 have hl1 : w.heap.size + 1 < A.heap.size := HEA.out.lt
 have hl2 : w.heap.size + 1 + 1 < A.heap.size := HZ0.out.lt
 have B0 := hid (step_drew (Below.refl A.heap.size A))
 obtain ⟨-, -, -, -, -, x5, x6⟩ := HXA.out.cells7
 obtain ⟨e0, e1, e2, e3, e4⟩ := HEA.out.cells5
 go_region_with ((go_at_call 45; refine (PO.out _ (HA.out.below (below_deep HBA.out B0.out))).mono ?_; rintro _ w5 ⟨v5, S, rfl, ho5, hs5, hb5⟩; obtain ⟨ab5, ac5, rfl, hl5⟩ := Lies.owned ho5; have hb5' : Below A.heap.size A w5 := (by with_reducible exact below_deep B0.out hb5); have y5 := (HXA.out.below hb5').cells7.2.2.2.2.2.1; have HE5 := hid (HEA.out.below hb5'); obtain ⟨e0', e1', e2', e3', e4'⟩ := HE5.out.cells5; have HZ5 := hid (HZ0.out.below hb5'); obtain ⟨z0, z1, z2, z3, z4, z5, z6⟩ := HZ5.out.cells7; obtain ⟨f0, f1, f2, f3, f4, f5, f6⟩ := HZ5.out.free7; have hl0' := Nat.lt_of_lt_of_le hl0 hb5'.size; have hl1' := Nat.lt_of_lt_of_le hl1 hb5'.size; have hl2' := Nat.lt_of_lt_of_le hl2 hb5'.size))
 all_goals
   have HBF := hid (put7_box HZ5.out (.slice cb2 cn2 cc2) (.slice db2 dn2 dc2) (.slice sb2 sn2 sc2) (.slice eb2 en2 ec2) (.int .i64 base2) (.int .i64 next) (.slice ab5 an ac5))
   have HBL := hid (put7_below (below_deep HBA.out hb5') (show w.heap.size ≤ w.heap.size + 1 + 1 by omega) (.slice cb2 cn2 cc2) (.slice db2 dn2 dc2) (.slice sb2 sn2 sc2) (.slice eb2 en2 ec2) (.int .i64 base2) (.int .i64 next) (.slice ab5 an ac5))
   have HEO := hid ((EarlyOwn.put ⟨ho5, hs5⟩ HZ5.out (by decide) (by decide) (by decide) (by decide) (put7_off w5 (w.heap.size + 1 + 1) (.slice cb2 cn2 cc2) (.slice db2 dn2 dc2) (.slice sb2 sn2 sc2) (.slice eb2 en2 ec2) (.int .i64 base2) (.int .i64 next) (.slice ab5 an ac5))).lower (B' := w.heap.size) (show w.heap.size ≤ A.heap.size by omega))
   clear ho5 hs5 hl5
   go_wp2
   refine bodyPost_ret (with_results _ (w.heap.size + 1 + 1) _ rfl HBF.out) rfl ?_
   exact ⟨_, _, _, rfl, HEO.out, HBL.out⟩

theorem ownR_results (tmps : Array Value) (b : Nat) (w : World) {a0 a1 a2 a3 a6 : Option Addr} {n0 n1 n2 n3 n6 c0 c1 c2 c3 c6 : Nat} {z y : Int} (h : tmps.getD 2 undef = .pointer (some ⟨b, 0, none⟩)) (hb : Box w b (repA a0 n0 c0 a1 n1 c1 a2 n2 c2 a3 n3 c3 z y a6 n6 c6) 35) :
   (results Tryz.f18 tmps).run Tryz.prog w = .ok (.agg (repA a0 n0 c0 a1 n1 c1 a2 n2 c2 a3 n3 c3 z y a6 n6 c6)) w := by
 have h' : tmps[2]?.getD undef = .pointer (some ⟨b, 0, none⟩) := by simpa using h
 obtain ⟨k0, k1, k2, k3, k4, k5, k6⟩ := hb.cells7
 simp [results, Tryz.results18, go_sem, h', k0, k1, k2, k3, k4, k5, k6]
structure RepOwn (w : World) (B : Nat) (cb : Option Addr) (cn cc : Nat) (db : Option Addr) (dn dc : Nat) (sb : Option Addr) (sn sc : Nat) (eb : Option Addr) (en ec : Nat) (ab : Option Addr) (an ac : Nat) (S : List ESlot) (r : Rep) : Prop where
 eng : EngOwn w B cb cn cc (.slice db dn dc) (.slice sb sn sc) (.slice eb en ec) r.eng
 early : EarlyOwn w B ab an ac S r.early
theorem EngOwn.lies2 {w : World} {cb db sb eb : Option Addr} {B cn cc dn dc sn sc en ec : Nat} {e : Eng} (h : EngOwn w B cb cn cc (.slice db dn dc) (.slice sb sn sc) (.slice eb en ec) e) : EngLies w cb cn cc db dn dc sb sn sc eb en ec e := by
 obtain ⟨db9, dc9, sb9, sc9, eb9, ec9, e1, e2, e3, h9⟩ := h.lies
 injection e1 with a1 a2 a3
 injection e2 with a4 a5 a6
 injection e3 with a7 a8 a9
 subst a1 a2 a3 a4 a5 a6 a7 a8 a9
 exact h9
theorem RepOwn.below {w w' : World} {cb db sb eb ab : Option Addr} {B cn cc dn dc sn sc en ec an ac : Nat} {S : List ESlot} {r : Rep} (h : RepOwn w B cb cn cc db dn dc sb sn sc eb en ec ab an ac S r) (hb : Below w.heap.size w w') : RepOwn w' B cb cn cc db dn dc sb sn sc eb en ec ab an ac S r := ⟨h.eng.below hb, h.early.below hb⟩
theorem RepOwn.parts {w0 w : World} {cb db sb eb ab : Option Addr} {B cn cc dn dc sn sc en ec an ac : Nat} {S : List ESlot} {r : Rep} (h : RepOwn w B cb cn cc db dn dc sb sn sc eb en ec ab an ac S r) : RepParts w0 w cb cn cc db dn dc sb sn sc eb en ec ab an ac S r := h.early.parts h.eng.lies2
theorem EngOwn.putR {w w' : World} {B b : Nat} {cs : Array Value} {cb : Option Addr} {cn cc : Nat} {v1 v2 v3 : Value} {e : Eng} (h : EngOwn w B cb cn cc v1 v2 v3 e) (hb : Box w b cs 35) (ho : Off b w w') : EngOwn w' B cb cn cc v1 v2 v3 e := by
 obtain ⟨h1, ⟨T, h2, h2'⟩, h3, h4⟩ := h
 exact ⟨h1.off hb (by decide) (by decide) ho, ⟨T, owns_off h2 ho (own_ne h2 hb (by decide)), h2'.off hb (by decide) (by decide) ho⟩, owns_off h3 ho (own_ne h3 hb (by decide)), owns_off h4 ho (own_ne h4 hb (by decide))⟩
theorem RepOwn.put {w w' : World} {B b : Nat} {cs : Array Value} {cb db sb eb ab : Option Addr} {cn cc dn dc sn sc en ec an ac : Nat} {S : List ESlot} {r : Rep} (h : RepOwn w B cb cn cc db dn dc sb sn sc eb en ec ab an ac S r) (hb : Box w b cs 35) (ho : Off b w w') : RepOwn w' B cb cn cc db dn dc sb sn sc eb en ec ab an ac S r :=
 ⟨h.eng.putR hb ho, h.early.put hb (by decide) (by decide) (by decide) (by decide) ho⟩
def OwnToldR (w w' : World) (r : Rep) (x : Ending) : Prop := ∃ cb cn cc db dn dc sb sn sc eb en ec ab an ac S, x = .returned (.agg (repA cb cn cc db dn dc sb sn sc eb en ec r.eng.base r.next ab an ac)) ∧ RepOwn w' w.heap.size cb cn cc db dn dc sb sn sc eb en ec ab an ac S r ∧ Below w.heap.size w w'

set_option maxHeartbeats 8000000 in
set_option maxRecDepth 100000 in
theorem ownR_calls {es : List Ent} {m : Nat} {dq : Nat → Bool} {bq : ByteArray → Int} {r : Rep} (h : GoodR es m dq bq r) (rv : Value) (w : World) (hr : RepIn w rv r) :
   Calls Tryz.prog 18 #[rv] w fun x w' => OwnToldR w w' r x := by
 obtain ⟨cb, cn, cc, db, dn, dc, sb, sn, sc, eb, en, ec, ab, an, ac, rfl, hl⟩ := hr
 have hfew : (deedsOf es).length ≤ 1954687338211 := Nat.le_trans h.few (by decide)
 have han : an ≤ 1048576 := by rw [hl.early.len]; exact Nat.le_trans h.four (by decide)
 have PE := hid (fun W hv => planOwn_calls h.eng hfew (.agg (engA cb cn cc db dn dc sb sn sc eb en ec r.eng.base)) W hv)
 have PW := hid (fun cb2 cn2 cc2 db2 dn2 dc2 sb2 sn2 sc2 eb2 en2 ec2 W hv => withR_calls cb cn cc db dn dc sb sn sc eb en ec r.eng.base r.next ab an ac cb2 cn2 cc2 db2 dn2 dc2 sb2 sn2 sc2 eb2 en2 ec2 r.eng.base r.early W hv han h.early)
 have HL := hid hl
 have HX0 := hid (Box.new w (repA cb cn cc db dn dc sb sn sc eb en ec r.eng.base r.next ab an ac) 35)
 have HG0 := hid (grew w (.cells (repA cb cn cc db dn dc sb sn sc eb en ec r.eng.base r.next ab an ac) 35))
 have HZ0 := hid (Box.new (w.alloc (.cells (repA cb cn cc db dn dc sb sn sc eb en ec r.eng.base r.next ab an ac) 35)) nilR 35)
 have HG1 := hid (grew (w.alloc (.cells (repA cb cn cc db dn dc sb sn sc eb en ec r.eng.base r.next ab an ac) 35)) (.cells nilR 35))
 rw [World.size_alloc] at HZ0
 have HXA := hid (HX0.out.below HG1.out)
 have HBA := hid (below_deep HG0.out HG1.out)
 clear h hl HX0 HG0 HG1 hfew han
 go_enter Tryz.func18, Tryz.ntmps18
 go_upto_region 1 with fail
 generalize (w.alloc (.cells (repA cb cn cc db dn dc sb sn sc eb en ec r.eng.base r.next ab an ac) 35)).alloc (.cells nilR 35) = A at *
 have hl0 : w.heap.size < A.heap.size := HXA.out.lt
 have hl1 : w.heap.size + 1 < A.heap.size := HZ0.out.lt
 have B0 := hid (step_drew (Below.refl A.heap.size A))
 obtain ⟨x0, x1, x2, x3, x4, x5, x6⟩ := HXA.out.cells7
 go_region_with (first
   | (go_at_call 37; refine (PE.out _ ⟨_, _, _, _, _, _, _, _, _, _, _, _, rfl, HL.out.eng.below (below_deep HBA.out B0.out)⟩).mono ?_; rintro _ w5 ⟨cb2, cn2, cc2, v1, v2, v3, rfl, he5, hb5⟩; obtain ⟨db2, dc2, sb2, sc2, eb2, ec2, rfl, rfl, rfl, -⟩ := he5.lies; have hb5' : Below A.heap.size A w5 := (by with_reducible exact below_deep B0.out hb5); obtain ⟨x0', x1', x2', x3', x4', x5', x6'⟩ := (HXA.out.below hb5').cells7; have hl0' := Nat.lt_of_lt_of_le hl0 hb5'.size)
   | (go_at_call 30; refine (PW.out _ _ _ _ _ _ _ _ _ _ _ _ w5 (HL.out.early.below (below_deep HBA.out hb5'))).mono ?_; rintro _ w6 ⟨ab2, ac2, S2, rfl, ho6, hb6⟩; have hb6' : Below A.heap.size A w6 := (by with_reducible exact below_deep hb5' hb6); have HZ6 := hid (HZ0.out.below hb6'); obtain ⟨z0, z1, z2, z3, z4, z5, z6⟩ := HZ6.out.cells7; obtain ⟨f0, f1, f2, f3, f4, f5, f6⟩ := HZ6.out.free7; have hl1' := Nat.lt_of_lt_of_le hl1 hb6'.size))
 all_goals
   have hsz : w.heap.size ≤ w5.heap.size := Nat.le_trans (by omega : w.heap.size ≤ A.heap.size) hb5'.size
   have HBF := hid (put7_box HZ6.out (.slice cb2 cn2 cc2) (.slice db2 r.eng.deeds.length dc2) (.slice sb2 r.eng.state.length sc2) (.slice eb2 r.eng.ends.length ec2) (.int .i64 r.eng.base) (.int .i64 r.next) (.slice ab2 an ac2))
   have HBL := hid (put7_below (below_deep HBA.out hb6') (Nat.le_succ _) (.slice cb2 cn2 cc2) (.slice db2 r.eng.deeds.length dc2) (.slice sb2 r.eng.state.length sc2) (.slice eb2 r.eng.ends.length ec2) (.int .i64 r.eng.base) (.int .i64 r.next) (.slice ab2 an ac2))
   have HRO := hid (RepOwn.put (r := r) ⟨(he5.below hb6).lower (B' := w.heap.size) (by show w.heap.size ≤ A.heap.size; omega), ho6.lower hsz⟩ HZ6.out (put7_off w6 (w.heap.size + 1) (.slice cb2 cn2 cc2) (.slice db2 r.eng.deeds.length dc2) (.slice sb2 r.eng.state.length sc2) (.slice eb2 r.eng.ends.length ec2) (.int .i64 r.eng.base) (.int .i64 r.next) (.slice ab2 an ac2)))
   clear he5 hb5 ho6 hb6 PE PW
   go_wp2
   refine bodyPost_ret (ownR_results _ (w.heap.size + 1) _ rfl HBF.out) rfl ?_
   exact ⟨_, _, _, _, _, _, _, _, _, _, _, _, _, _, _, _, rfl, HRO.out, HBL.out⟩
end Go.Proofs.YtnbekpblmkdnlaaGreatDoor

namespace Go.Proofs.YtnbekpblmkdnlaaGreatDoor
open Go.RowKit

def wD (d : Deed3) : Int := wDeed d.1 d.2.1 d.2.2
def firstW (l : List Deed3) : Int := (l.map wD).foldr (fun w r => if w = 0 then r else w) 0
theorem firstW_append : ∀ (a b : List Deed3), firstW (a ++ b) = if firstW a = 0 then firstW b else firstW a
 | [], b => by simp [firstW]
 | d :: a, b => by
   have ih := firstW_append a b
   unfold firstW at *
   simp only [List.cons_append, List.map_cons, List.foldr_cons]
   by_cases h : wD d = 0
   · rw [if_pos h, if_pos h, ih]
   · rw [if_neg h, if_neg h, if_neg h]
theorem firstW_one (d : Deed3) : firstW [d] = wD d := by
 unfold firstW
 simp only [List.map_cons, List.map_nil, List.foldr_cons, List.foldr_nil]
 split
 · rename_i h; exact h.symm
 · rfl
theorem firstW_on {D : List Deed3} {j : Nat} (hj : j < D.length) (h : firstW (D.take j) = 0) (h2 : wD (D.getD j default) = 0) : firstW (D.take (j + 1)) = 0 := by
 rw [take_snoc_getD hj, firstW_append, if_pos h, firstW_one, h2]
theorem firstW_stop {D : List Deed3} {j : Nat} (hj : j < D.length) (h : firstW (D.take j) = 0) (h2 : wD (D.getD j default) ≠ 0) : firstW D = wD (D.getD j default) := by
 have e : D = D.take (j + 1) ++ D.drop (j + 1) := (List.take_append_drop _ _).symm
 have h3 : firstW (D.take (j + 1)) = wD (D.getD j default) := by rw [take_snoc_getD hj, firstW_append, if_pos h, firstW_one]
 calc firstW D = firstW (D.take (j + 1) ++ D.drop (j + 1)) := by rw [← e]
   _ = _ := by rw [firstW_append, if_neg (by rw [h3]; exact h2), h3]
theorem wrongE_is (x : Ent) : wrongE x = if x.1 < 0 ∨ 11 < x.1 then 3 else if 6 < x.2.length then 5 else firstW x.2 := rfl

set_option maxHeartbeats 8000000 in
set_option maxRecDepth 100000 in
theorem refWrongE_calls (x : Ent) (v : Value) (w : World) (hv : EntV w v x) :
   Calls Tryz.prog 7 #[v] w fun e w' => e = .returned (.int .i64 (wrongE x)) ∧ Below w.heap.size w w' := by
 obtain ⟨db, dn, dc, rfl, hd⟩ := hv
 obtain ⟨m, D⟩ := x
 simp only at hd ⊢
 have hdm := Nat.le_trans hd.hdr.le hd.hdr.max
 unfold maxLen at hdm
 have HQ := hid (wrongE_is (m, D))
 have HLN := hid hd.len
 have HGE := hid (grew w (.cells #[.int .i64 m, .slice db dn dc] 27))
 have HD := hid (hd.below HGE.out)
 clear hd
 generalize wrongE (m, D) = q at *
 have x0 := box_cell w #[.int .i64 m, .slice db dn dc] 27 0 _ rfl
 have x1 := box_cell w #[.int .i64 m, .slice db dn dc] 27 1 _ rfl
 by_cases hm : m < 0 ∨ 11 < m
 · have HE : Hid (q = 3) := by show _ = _; rw [HQ.out, if_pos hm]
   by_cases h0 : m < 0
   · go_enter Tryz.func7, Tryz.ntmps7
     go_wp2
     go_ret
     exact ⟨by rw [HE.out]; rfl, HGE.out⟩
   · have h1 : m > 11 := by omega
     go_enter Tryz.func7, Tryz.ntmps7
     go_wp2
     go_ret
     exact ⟨by rw [HE.out]; rfl, HGE.out⟩
 have h0 : ¬ m < 0 := fun h => hm (.inl h)
 have h1 : ¬ m > 11 := fun h => hm (.inr h)
 by_cases hl : 6 < dn
 · have HE : Hid (q = 5) := by show _ = _; rw [HQ.out, if_neg hm, if_pos (by rw [← HLN.out]; exact hl)]
   have hl' : (dn : Int) > 6 := by omega
   go_enter Tryz.func7, Tryz.ntmps7
   go_wp2
   go_ret
   exact ⟨by rw [HE.out]; rfl, HGE.out⟩
 have HE : Hid (q = firstW D) := by show _ = _; rw [HQ.out, if_neg hm, if_neg (by rw [← HLN.out]; exact hl)]
 have hl' : ¬ (dn : Int) > 6 := by omega
 go_enter Tryz.func7, Tryz.ntmps7
 go_wp2
 clear HQ hm hl' h0 h1 x0 x1
 generalize w.alloc (.cells #[.int .i64 m, .slice db dn dc] 27) = A at *
 go_loopw [21] (fun i wr => ∃ j : Nat, j ≤ dn ∧ i = .int .i64 j ∧ Hid (firstW (D.take j) = 0) ∧ Hid (Below A.heap.size A wr)) (fun i _ => dn - (intOf i).toNat)
 case atStart => exact ⟨0, Nat.zero_le _, rfl, rfl, Below.refl _ _⟩
 case round =>
   obtain ⟨j, hj, rfl, HR, HBR⟩ := hrel
   by_cases hlt : j < dn
   · have hjl : j < D.length := by rw [← HLN.out]; exact hlt
     have hi : (j : Int) < (dn : Int) := by omega
     rcases (HD.out.below HBR.out).run with h | ⟨db1, dbo, rfl, hdr⟩
     · omega
     obtain ⟨rb, rn, rc, wb, wn, wc, cb, cn, cc, k0, k1, k2, hdi, hs1, hs2⟩ := hdr j hlt
     have hdb : db1 < wr.heap.size := by simpa using World.block_lt_of_cell? _ _ k0
     have HGW := hid (grew wr (.cells #[.slice rb rn rc, .slice wb wn wc, .slice cb cn cc] 52))
     have HW := hid (refWrongDeed_calls (D.getD j default).1 (D.getD j default).2.1 (D.getD j default).2.2 rb rn rc wb wn wc cb cn cc _ (hdi.below HGW.out) hs1 hs2)
     have HN1 := hid (firstW_on hjl HR.out)
     have HN2 := hid (firstW_stop hjl HR.out)
     unfold wD at HN1 HN2
     clear hdi hs1 hs2 hdr
     generalize wDeed (D.getD j default).1 (D.getD j default).2.1 (D.getD j default).2.2 = p at *
     go_wp2_with fail
     refine HW.out.mono ?_
     rintro e w2 ⟨rfl, hb2⟩
     have HB2 := hid (below_deep HBR.out (below_deep HGW.out hb2))
     clear hb2
     by_cases hp : p = 0
     · subst hp
       have HN := hid (HN1.out rfl)
       go_wp2
       go_roundw
       case rel => exact ⟨j + 1, by omega, by go_num, HN, HB2⟩
       case measure => simp [intOf]; omega
     · have HN := hid (HN2.out hp)
       have t := ne_true hp
       clear hp
       go_wp2
       go_ret
       exact ⟨by rw [HE.out, HN.out]; rfl, below_deep HGE.out HB2.out⟩
   · obtain rfl : j = dn := by omega
     have HN : Hid (firstW D = 0) := by
       have := HR.out
       rw [HLN.out, List.take_length] at this
       exact this
     go_wp2
     go_ret
     exact ⟨by rw [HE.out, HN.out]; rfl, below_deep HGE.out HBR.out⟩
set_option maxHeartbeats 8000000 in
set_option maxRecDepth 100000 in
theorem logWrong_calls (x : Ent) (v : Value) (w : World) (hv : EntV w v x) :
   Calls Tryz.prog 42 #[v] w fun e w' => e = .returned (.int .i64 (wrongE x)) ∧ Below w.heap.size w w' := by
 obtain ⟨db, dn, dc, rfl, hd⟩ := hv
 obtain ⟨m, D⟩ := x
 simp only at hd ⊢
 have hdm := Nat.le_trans hd.hdr.le hd.hdr.max
 unfold maxLen at hdm
 have HQ := hid (wrongE_is (m, D))
 have HLN := hid hd.len
 have HGE := hid (grew w (.cells #[.int .i64 m, .slice db dn dc] 27))
 have HD := hid (hd.below HGE.out)
 clear hd
 generalize wrongE (m, D) = q at *
 have x0 := box_cell w #[.int .i64 m, .slice db dn dc] 27 0 _ rfl
 have x1 := box_cell w #[.int .i64 m, .slice db dn dc] 27 1 _ rfl
 by_cases hm : m < 0 ∨ 11 < m
 · have HE : Hid (q = 3) := by show _ = _; rw [HQ.out, if_pos hm]
   by_cases h0 : m < 0
   · go_enter Tryz.func42, Tryz.ntmps42
     go_wp2
     go_ret
     exact ⟨by rw [HE.out]; rfl, HGE.out⟩
   · have h1 : m ≥ 12 := by omega
     go_enter Tryz.func42, Tryz.ntmps42
     go_wp2
     go_ret
     exact ⟨by rw [HE.out]; rfl, HGE.out⟩
 have h0 : ¬ m < 0 := fun h => hm (.inl h)
 have h1 : ¬ m ≥ 12 := fun h => hm (.inr (by omega))
 by_cases hl : 6 < dn
 · have HE : Hid (q = 5) := by show _ = _; rw [HQ.out, if_neg hm, if_pos (by rw [← HLN.out]; exact hl)]
   have hl' : (dn : Int) > 6 := by omega
   go_enter Tryz.func42, Tryz.ntmps42
   go_wp2
   go_ret
   exact ⟨by rw [HE.out]; rfl, HGE.out⟩
 have HE : Hid (q = firstW D) := by show _ = _; rw [HQ.out, if_neg hm, if_neg (by rw [← HLN.out]; exact hl)]
 have hl' : ¬ (dn : Int) > 6 := by omega
 go_enter Tryz.func42, Tryz.ntmps42
 go_wp2
 clear HQ hm hl' h0 h1 x0 x1
 generalize w.alloc (.cells #[.int .i64 m, .slice db dn dc] 27) = A at *
 go_loopw [23] (fun i wr => ∃ j : Nat, j ≤ dn ∧ i = .int .i64 j ∧ Hid (firstW (D.take j) = 0) ∧ Hid (Below A.heap.size A wr)) (fun i _ => dn - (intOf i).toNat)
 case atStart => exact ⟨0, Nat.zero_le _, rfl, rfl, Below.refl _ _⟩
 case round =>
   obtain ⟨j, hj, rfl, HR, HBR⟩ := hrel
   by_cases hlt : j < dn
   · have hjl : j < D.length := by rw [← HLN.out]; exact hlt
     have hi : (j : Int) < (dn : Int) := by omega
     rcases (HD.out.below HBR.out).run with h | ⟨db1, dbo, rfl, hdr⟩
     · omega
     obtain ⟨rb, rn, rc, wb, wn, wc, cb, cn, cc, k0, k1, k2, hdi, hs1, hs2⟩ := hdr j hlt
     have hdb : db1 < wr.heap.size := by simpa using World.block_lt_of_cell? _ _ k0
     have HGW := hid (grew wr (.cells #[.slice rb rn rc, .slice wb wn wc, .slice cb cn cc] 52))
     have HW := hid (wrongDeed_calls (D.getD j default).1 (D.getD j default).2.1 (D.getD j default).2.2 rb rn rc wb wn wc cb cn cc _ (hdi.below HGW.out) hs1 hs2)
     have HN1 := hid (firstW_on hjl HR.out)
     have HN2 := hid (firstW_stop hjl HR.out)
     unfold wD at HN1 HN2
     clear hdi hs1 hs2 hdr
     generalize wDeed (D.getD j default).1 (D.getD j default).2.1 (D.getD j default).2.2 = p at *
     go_wp2_with fail
     refine HW.out.mono ?_
     rintro e w2 ⟨rfl, hb2⟩
     have HB2 := hid (below_deep HBR.out (below_deep HGW.out hb2))
     clear hb2
     by_cases hp : p = 0
     · subst hp
       have HN := hid (HN1.out rfl)
       go_wp2
       go_roundw
       case rel => exact ⟨j + 1, by omega, by go_num, HN, HB2⟩
       case measure => simp [intOf]; omega
     · have HN := hid (HN2.out hp)
       have t := ne_true hp
       clear hp
       go_wp2
       go_ret
       exact ⟨by rw [HE.out, HN.out]; rfl, below_deep HGE.out HB2.out⟩
   · obtain rfl : j = dn := by omega
     have HN : Hid (firstW D = 0) := by
       have := HR.out
       rw [HLN.out, List.take_length] at this
       exact this
     go_wp2
     go_ret
     exact ⟨by rw [HE.out, HN.out]; rfl, below_deep HGE.out HBR.out⟩
end Go.Proofs.YtnbekpblmkdnlaaGreatDoor

namespace Go.Proofs.YtnbekpblmkdnlaaGreatDoor
open Go.RowKit

def placeR (r : Rep) (e : Ent) : Int := if hadR r e = true then 11 else if e.1 = r.next then 0 else if 4 ≤ r.early.length then 5 else 12
theorem place_keep {A w1 w2 : World} {b c : Nat} {x5 x6 y0 : Value} (h : w1.cell? ⟨b, 5, none⟩ = some x5 ∧ w1.cell? ⟨b, 6, none⟩ = some x6 ∧ w1.cell? ⟨c, 0, none⟩ = some y0 ∧ Below A.heap.size A w1) (hb : Below w1.heap.size w1 w2) :
   w2.cell? ⟨b, 5, none⟩ = some x5 ∧ w2.cell? ⟨b, 6, none⟩ = some x6 ∧ w2.cell? ⟨c, 0, none⟩ = some y0 ∧ Below A.heap.size A w2 := by
 obtain ⟨h0, h1, h2, hz⟩ := h
 exact ⟨kept_cell hb h0, kept_cell hb h1, kept_cell hb h2, below_deep hz hb⟩
theorem place_held {p0 p1 p2 : Prop} {B : Nat} {A w' : World} (h : p0 ∧ p1 ∧ p2 ∧ Below B A w') : Below B A w' := h.2.2.2

set_option maxHeartbeats 8000000 in
set_option maxRecDepth 100000 in
theorem place_calls {r : Rep} {e : Ent} (he : RightEnt e) (rv ev : Value) (w : World) (hr : RepIn w rv r) (hev : EntV w ev e) :
   Calls Tryz.prog 21 #[rv, ev] w fun x w' => x = .returned (.int .i64 (placeR r e)) ∧ Below w.heap.size w w' := by
 obtain ⟨cb, cn, cc, db, dn, dc, sb, sn, sc, eb, en, ec, ab, an, ac, rfl, hl⟩ := hr
 obtain ⟨qb, qn, qc, rfl, hq⟩ := hev
 have hw := wrongE_right.2 he
 have HAN := hid hl.early.len
 have HL := hid hl.early
 have HEV : Hid (EntV w (.agg #[.int .i64 e.1, .slice qb qn qc]) e) := ⟨qb, qn, qc, rfl, hq⟩
 have HX0 := hid (Box.new w (repA cb cn cc db dn dc sb sn sc eb en ec r.eng.base r.next ab an ac) 35)
 have HG0 := hid (grew w (.cells (repA cb cn cc db dn dc sb sn sc eb en ec r.eng.base r.next ab an ac) 35))
 have HE0 := hid (Box.new (w.alloc (.cells (repA cb cn cc db dn dc sb sn sc eb en ec r.eng.base r.next ab an ac) 35)) #[.int .i64 e.1, .slice qb qn qc] 27)
 have HG1 := hid (grew (w.alloc (.cells (repA cb cn cc db dn dc sb sn sc eb en ec r.eng.base r.next ab an ac) 35)) (.cells #[.int .i64 e.1, .slice qb qn qc] 27))
 rw [World.size_alloc] at HE0
 have HXA := hid (HX0.out.below HG1.out)
 have HBA := hid (below_deep HG0.out HG1.out)
 have hham := Nat.le_trans hl.early.hdr.le hl.early.hdr.max
 unfold maxLen at hham
 clear hl hq HX0 HG0 HG1
 go_enter Tryz.func21, Tryz.ntmps21
 go_upto_region 1 with fail
 generalize (w.alloc (.cells (repA cb cn cc db dn dc sb sn sc eb en ec r.eng.base r.next ab an ac) 35)).alloc (.cells #[.int .i64 e.1, .slice qb qn qc] 27) = A at *
 have PW := hid (logWrong_calls e (.agg #[.int .i64 e.1, .slice qb qn qc]) A (HEV.out.below HBA.out))
 rw [hw] at PW
 have y0 := HE0.out.cell 0 _ rfl
 have y1 := HE0.out.cell 1 _ rfl
 have hl1 : w.heap.size + 1 < A.heap.size := HE0.out.lt
 go_wp2_with fail
 refine PW.out.mono ?_
 rintro _ w1 ⟨rfl, hb1⟩
 have HB1 := hid (below_deep HBA.out hb1)
 have HX1 := hid (HXA.out.below hb1)
 have HE1 := hid (HE0.out.below hb1)
 clear hb1 PW y0 y1 hl1 HXA HE0 HBA
 obtain ⟨-, -, -, -, -, x5, x6⟩ := HX1.out.cells7
 have y0 := HE1.out.cell 0 _ rfl
 have hl0 : w.heap.size < w1.heap.size := HX1.out.lt
 have hl1 : w.heap.size + 1 < w1.heap.size := HE1.out.lt
 by_cases hlt : e.1 < r.next
 · have hd : decide (e.1 < r.next) = true := by simpa using hlt
   have HP : Hid (placeR r e = 11) := by
     show _ = _
     unfold placeR hadR
     rw [hd, Bool.true_or, if_pos rfl]
   go_upto_region 4 with fail
   go_quiet (fail)
   go_wp2
   go_ret
   exact ⟨by rw [HP.out]; rfl, ⟨HB1.out.os, HB1.out.tape, HB1.out.output, HB1.out.size, HB1.out.block⟩⟩
 · have hd : decide (e.1 < r.next) = false := by simpa using hlt
   have HH : Hid (hadR r e = r.early.any (isNum e.1)) := by
     show _ = _
     unfold hadR
     rw [hd, Bool.false_or]
   have PN := hid (fun W => numbered_calls e.1 W)
   have HDR := hid (step_drew (Below.refl w1.heap.size w1))
   have HS0 : Hid ((fun w' => w'.cell? ⟨w.heap.size, 5, none⟩ = some (.int .i64 r.next) ∧ w'.cell? ⟨w.heap.size, 6, none⟩ = some (.slice ab an ac) ∧ w'.cell? ⟨w.heap.size + 1, 0, none⟩ = some (.int .i64 e.1) ∧ Below w1.heap.size w1 w') w1.drew) := ⟨kept_cell HDR.out x5, kept_cell HDR.out x6, kept_cell HDR.out y0, HDR.out⟩
   cases hany : r.early.any (isNum e.1) with
   | true =>
     have HP : Hid (placeR r e = 11) := by
       show _ = _
       unfold placeR
       rw [HH.out, hany, if_pos rfl]
     have PC : Hid (∀ fv W, EntsIn W ab an ac r.early → NumFn W e.1 fv → Calls Tryz.prog 43 #[.slice ab an ac, fv] W fun x w' => x = .returned (.bool true) ∧ Below W.heap.size W w') := fun fv W ha hf => by
       have := contF_calls r.early ab an ac e.1 fv W ha hf
       rw [hany] at this
       exact this
     clear hany
     go_wp2_with fail
     go_region_held3 (fun w' => w'.cell? ⟨w.heap.size, 5, none⟩ = some (.int .i64 r.next) ∧ w'.cell? ⟨w.heap.size, 6, none⟩ = some (.slice ab an ac) ∧ w'.cell? ⟨w.heap.size + 1, 0, none⟩ = some (.int .i64 e.1) ∧ Below w1.heap.size w1 w')
       (first
         | exact HS0.out
         | with_reducible exact place_keep (by assumption) (by assumption))
       (first
         | (go_at_call 44; refine (PN.out _).mono ?_; rintro _ w2 ⟨fv, rfl, hfv, hb2⟩)
         | (go_at_call 43; refine (PC.out fv _ ?_ ?_).mono ?_; exact HL.out.below (below_deep HB1.out (place_held (by assumption))); exact hfv; rintro _ w3 ⟨rfl, hb3⟩))
     have HBF := hid (below_deep HB1.out (below_deep (below_deep HDR.out hb2) hb3))
     go_wp2
     go_ret
     exact ⟨by rw [HP.out]; rfl, HBF.out⟩
   | false =>
     have HP : Hid (placeR r e = if e.1 = r.next then 0 else if 4 ≤ r.early.length then 5 else 12) := by
       show _ = _
       unfold placeR
       rw [HH.out, hany, if_neg (by decide)]
     have PC : Hid (∀ fv W, EntsIn W ab an ac r.early → NumFn W e.1 fv → Calls Tryz.prog 43 #[.slice ab an ac, fv] W fun x w' => x = .returned (.bool false) ∧ Below W.heap.size W w') := fun fv W ha hf => by
       have := contF_calls r.early ab an ac e.1 fv W ha hf
       rw [hany] at this
       exact this
     clear hany
     go_wp2_with fail
     go_region_held3 (fun w' => w'.cell? ⟨w.heap.size, 5, none⟩ = some (.int .i64 r.next) ∧ w'.cell? ⟨w.heap.size, 6, none⟩ = some (.slice ab an ac) ∧ w'.cell? ⟨w.heap.size + 1, 0, none⟩ = some (.int .i64 e.1) ∧ Below w1.heap.size w1 w')
       (first
         | exact HS0.out
         | with_reducible exact place_keep (by assumption) (by assumption))
       (first
         | (go_at_call 44; refine (PN.out _).mono ?_; rintro _ w2 ⟨fv, rfl, hfv, hb2⟩)
         | (go_at_call 43; refine (PC.out fv _ ?_ ?_).mono ?_; exact HL.out.below (below_deep HB1.out (place_held (by assumption))); exact hfv; rintro _ w3 ⟨rfl, hb3⟩))
     have HW3 := hid (below_deep (below_deep HDR.out hb2) hb3)
     have HBF := hid (below_deep HB1.out HW3.out)
     clear x5 x6 y0 hl0 hl1 hb2 hb3 hfv PN PC HS0
     obtain ⟨-, -, -, -, -, x5, x6⟩ := (HX1.out.below HW3.out).cells7
     have y0 := (HE1.out.below HW3.out).cell 0 _ rfl
     have hl0 : w.heap.size < w3.heap.size := (HX1.out.below HW3.out).lt
     have hl1 : w.heap.size + 1 < w3.heap.size := (HE1.out.below HW3.out).lt
     by_cases heq : e.1 = r.next
     · have t : (e.1 == r.next) = true := by simpa using heq
       have HQ : Hid (placeR r e = 0) := by show _ = _; rw [HP.out, if_pos heq]
       go_wp2
       go_ret
       exact ⟨by rw [HQ.out]; rfl, HBF.out⟩
     · have t : (e.1 == r.next) = false := by simpa using heq
       by_cases h4 : 4 ≤ an
       · have h4' : (an : Int) ≥ 4 := by omega
         have HQ : Hid (placeR r e = 5) := by show _ = _; rw [HP.out, if_neg heq, if_pos (by rw [← HAN.out]; exact h4)]
         go_wp2
         go_ret
         exact ⟨by rw [HQ.out]; rfl, HBF.out⟩
       · have h4' : ¬ (an : Int) ≥ 4 := by omega
         have HQ : Hid (placeR r e = 12) := by show _ = _; rw [HP.out, if_neg heq, if_neg (by rw [← HAN.out]; exact h4)]
         go_wp2
         go_ret
         exact ⟨by rw [HQ.out]; rfl, HBF.out⟩
end Go.Proofs.YtnbekpblmkdnlaaGreatDoor

namespace Go.Proofs.YtnbekpblmkdnlaaGreatDoor
open Go.Shelf
def lays110_ren : Go.Shelf.Ren := ⟨fun | 110 => 113 | 109 => 91 | n => n, fun | 31 => 49 | 9 => 9 | 4 => 4 | 3 => 3 | 0 => 0 | n => n, fun | n => n⟩
theorem lays110 : Go.Proofs.Lays.n110 Tryz.prog lays110_ren := {
  mixed := by kernel_rfl
  f109 := Tryz.func91.trans (congrArg some (by kernel_rfl))
  f110 := Tryz.func113.trans (congrArg some (by kernel_rfl))
  t0 := Tryz.underlying0
  a0 := Tryz.isAgg0
  z0 := Tryz.sizeOf0
  v0 := Tryz.zeroValue0
  t3 := Tryz.underlying3
  a3 := Tryz.isAgg3
  z3 := Tryz.sizeOf3
  v3 := Tryz.zeroValue3
  t4 := Tryz.underlying4
  a4 := Tryz.isAgg4
  z4 := Tryz.sizeOf4
  v4 := Tryz.zeroValue4
  t9 := Tryz.underlying9
  a9 := Tryz.isAgg9
  z9 := Tryz.sizeOf9
  v9 := Tryz.zeroValue9
  t31 := Tryz.underlying49
  a31 := Tryz.isAgg49
  z31 := Tryz.sizeOf49
  v31 := Tryz.zeroValue49 }
def lays189_ren : Go.Shelf.Ren := ⟨fun | 189 => 103 | 125 => 127 | 257 => 126 | 128 => 148 | 129 => 149 | 294 => 139 | 295 => 140 | 296 => 141 | 297 => 142 | 298 => 143 | 299 => 144 | 216 => 145 | 300 => 146 | 301 => 147 | 328 => 158 | 329 => 159 | 330 => 160 | 331 => 161 | 332 => 162 | 215 => 163 | 343 => 167 | n => n, fun | 28 => 23 | 3 => 3 | 46 => 167 | 0 => 0 | 51 => 191 | 53 => 170 | 4 => 4 | 183 => 184 | 182 => 183 | 131 => 101 | 5 => 5 | 9 => 9 | 218 => 201 | 222 => 205 | 228 => 207 | 229 => 208 | n => n, fun | n => n⟩
theorem lays189 : Go.Proofs.Lays.n189 Tryz.prog lays189_ren := {
  mixed := by kernel_rfl
  f125 := Tryz.func127.trans (congrArg some (by kernel_rfl))
  f128 := Tryz.func148.trans (congrArg some (by kernel_rfl))
  f129 := Tryz.func149.trans (congrArg some (by kernel_rfl))
  f189 := Tryz.func103.trans (congrArg some (by kernel_rfl))
  f215 := Tryz.func163.trans (congrArg some (by kernel_rfl))
  f216 := Tryz.func145.trans (congrArg some (by kernel_rfl))
  f257 := Tryz.func126.trans (congrArg some (by kernel_rfl))
  f294 := Tryz.func139.trans (congrArg some (by kernel_rfl))
  f295 := Tryz.func140.trans (congrArg some (by kernel_rfl))
  f296 := Tryz.func141.trans (congrArg some (by kernel_rfl))
  f297 := Tryz.func142.trans (congrArg some (by kernel_rfl))
  f298 := Tryz.func143.trans (congrArg some (by kernel_rfl))
  f299 := Tryz.func144.trans (congrArg some (by kernel_rfl))
  f300 := Tryz.func146.trans (congrArg some (by kernel_rfl))
  f301 := Tryz.func147.trans (congrArg some (by kernel_rfl))
  f328 := Tryz.func158.trans (congrArg some (by kernel_rfl))
  f329 := Tryz.func159.trans (congrArg some (by kernel_rfl))
  f330 := Tryz.func160.trans (congrArg some (by kernel_rfl))
  f331 := Tryz.func161.trans (congrArg some (by kernel_rfl))
  f332 := Tryz.func162.trans (congrArg some (by kernel_rfl))
  f343 := Tryz.func167.trans (congrArg some (by kernel_rfl))
  t0 := Tryz.underlying0
  a0 := Tryz.isAgg0
  z0 := Tryz.sizeOf0
  v0 := Tryz.zeroValue0
  t3 := Tryz.underlying3
  a3 := Tryz.isAgg3
  z3 := Tryz.sizeOf3
  v3 := Tryz.zeroValue3
  t4 := Tryz.underlying4
  a4 := Tryz.isAgg4
  z4 := Tryz.sizeOf4
  v4 := Tryz.zeroValue4
  t5 := Tryz.underlying5
  a5 := Tryz.isAgg5
  z5 := Tryz.sizeOf5
  v5 := Tryz.zeroValue5
  t9 := Tryz.underlying9
  a9 := Tryz.isAgg9
  z9 := Tryz.sizeOf9
  v9 := Tryz.zeroValue9
  t28 := Tryz.underlying23
  a28 := Tryz.isAgg23
  z28 := Tryz.sizeOf23
  v28 := Tryz.zeroValue23
  t46 := Tryz.underlying167
  a46 := Tryz.isAgg167
  z46 := Tryz.sizeOf167
  v46 := Tryz.zeroValue167
  t51 := Tryz.underlying191
  a51 := Tryz.isAgg191
  z51 := Tryz.sizeOf191
  v51 := Tryz.zeroValue191
  t53 := Tryz.underlying170
  a53 := Tryz.isAgg170
  z53 := Tryz.sizeOf170
  v53 := Tryz.zeroValue170
  t131 := Tryz.underlying101
  a131 := Tryz.isAgg101
  z131 := Tryz.sizeOf101
  v131 := Tryz.zeroValue101
  t182 := Tryz.underlying183
  a182 := Tryz.isAgg183
  z182 := Tryz.sizeOf183
  v182 := Tryz.zeroValue183
  t183 := Tryz.underlying184
  a183 := Tryz.isAgg184
  z183 := Tryz.sizeOf184
  v183 := Tryz.zeroValue184
  t218 := Tryz.underlying201
  a218 := Tryz.isAgg201
  z218 := Tryz.sizeOf201
  v218 := Tryz.zeroValue201
  t222 := Tryz.underlying205
  a222 := Tryz.isAgg205
  z222 := Tryz.sizeOf205
  v222 := Tryz.zeroValue205
  t228 := Tryz.underlying207
  a228 := Tryz.isAgg207
  z228 := Tryz.sizeOf207
  v228 := Tryz.zeroValue207
  t229 := Tryz.underlying208
  a229 := Tryz.isAgg208
  z229 := Tryz.sizeOf208
  v229 := Tryz.zeroValue208 }
def laysB20_ren : Go.Shelf.Ren := ⟨fun | 20 => 104 | n => n, fun | 22 => 23 | 3 => 3 | 4 => 4 | 0 => 0 | n => n, fun | n => n⟩
theorem laysB20 : Go.Proofs.Lays2.n20 Tryz.prog laysB20_ren := {
  mixed := by kernel_rfl
  f20 := Tryz.func104.trans (congrArg some (by kernel_rfl))
  t0 := Tryz.underlying0
  a0 := Tryz.isAgg0
  z0 := Tryz.sizeOf0
  v0 := Tryz.zeroValue0
  t3 := Tryz.underlying3
  a3 := Tryz.isAgg3
  z3 := Tryz.sizeOf3
  v3 := Tryz.zeroValue3
  t4 := Tryz.underlying4
  a4 := Tryz.isAgg4
  z4 := Tryz.sizeOf4
  v4 := Tryz.zeroValue4
  t22 := Tryz.underlying23
  a22 := Tryz.isAgg23
  z22 := Tryz.sizeOf23
  v22 := Tryz.zeroValue23
  i3 := by kernel_rfl }
end Go.Proofs.YtnbekpblmkdnlaaGreatDoor

namespace Go.Proofs.YtnbekpblmkdnlaaGreatDoor
open Go.RowKit Go.Shelf

theorem sort_calls (zs : List Int) (B g n c : Nat) (w : World) (h : w.ownsRow B 3 1 (.slice (some ⟨g, 0, none⟩) n c) n (intsC zs)) (hn : n ≤ 4000000) :
   Calls Tryz.prog 103 #[.slice (some ⟨g, 0, none⟩) n c] w fun e w' => e = .returned (.tuple #[]) ∧ w'.ownsRow B 3 1 (.slice (some ⟨g, 0, none⟩) n c) n (intsC (zs.mergeSort fun x y => decide (x ≤ y))) ∧ w.grownBy w' (some g) := by
 obtain ⟨g', cap, hv, hB, hlt, hnc, hcm, hlen, hH⟩ := Lib.holds_of_ownsRow (enc := Value.int .i64) (zs := zs) h (by simp)
 simp only [Value.slice.injEq, Option.some.injEq, Addr.mk.injEq, and_true, true_and] at hv
 obtain ⟨rfl, rfl⟩ := hv
 subst hlen
 refine (Any.slices_Sort_int lays189 g 0 c zs w hH hlt (by omega)).mono ?_
 rintro e w' ⟨rfl, k, os, rfl⟩
 refine ⟨rfl, ?_, grownBy_sortedI _⟩
 rcases h.2 with ⟨h0, _⟩ | ⟨g', cap', cur, hv, hbase, hb, h1, h2, h3, h4⟩
 · cases h0
 · cases hv
   exact ownsRow_sortedI (n := k) (os := os) (ts := zs.mergeSort fun x y => decide (x ≤ y)) (List.length_mergeSort zs) hbase hb h1 h2 h3
theorem compact_calls (zs : List Int) (B g n c : Nat) (w : World) (h : w.ownsRow B 3 1 (.slice (some ⟨g, 0, none⟩) n c) n (intsC zs)) (hn : n ≤ 4000000) :
   Calls Tryz.prog 104 #[.slice (some ⟨g, 0, none⟩) n c] w fun e w' => e = .returned (.slice (some ⟨g, 0, none⟩) (Lib.compact zs).length c) ∧ w'.ownsRow B 3 1 (.slice (some ⟨g, 0, none⟩) (Lib.compact zs).length c) (Lib.compact zs).length (intsC (Lib.compact zs)) ∧ ∀ w0, Below B w0 w → Below B w0 w' := by
 obtain ⟨g', cap, hv, hB, hlt, hnc, hcm, hlen, hH⟩ := Lib.holds_of_ownsRow (enc := Value.int .i64) (zs := zs) h (by simp)
 simp only [Value.slice.injEq, Option.some.injEq, Addr.mk.injEq, and_true, true_and] at hv
 obtain ⟨rfl, rfl⟩ := hv
 subst hlen
 have hle := Lib.compact_length_le zs
 refine (Any.slices_Compact_int laysB20 g 0 c zs w hH (by omega) hnc).mono ?_
 rintro e w' ⟨rfl, q, rfl⟩
 refine ⟨rfl, ?_, fun w0 hb => Lib.below_putRow hb hB⟩
 have := Lib.ownsRow_putRow (q := q) (k := (Lib.compact zs).length) (ys := Lib.compact zs ++ List.replicate (zs.length - (Lib.compact zs).length) 0) h (by simp; omega) hle
 rw [List.take_left] at this
 exact this
end Go.Proofs.YtnbekpblmkdnlaaGreatDoor
